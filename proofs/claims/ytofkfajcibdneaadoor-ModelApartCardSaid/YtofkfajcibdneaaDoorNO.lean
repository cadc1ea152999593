
/-
  A model that comes in, as plain data.
-/
import Derived.Test.YtofkfajcibdneaaDoorND
import Derived.SizedLaws
import Derived.ShutString
import Derived.ChangeOld
import Derived.Deep.Slices
import Derived.Deep.Fields
import Derived.ChangeSame
import Derived.LaidMore
import Derived.LaidHandle
import Derived.Stop.LaidErr
import Derived.Stop.Joined
import Derived.Lib.LaidTab
import Derived.SevenTiedAt
import Derived.OpenShut
namespace Go.Proofs.YtofkfajcibdneaaDoor
open Go.ChangeShapes Go.WideShapes Go.ChangeAt Go.RowKit Go.Sort Go.Deep
set_option linter.unusedVariables false
set_option maxRecDepth 100000

theorem cellsN : Tryd.prog.cellsOf 3 = 1 := by kernel_rfl
theorem cellsL : Tryd.prog.cellsOf 2 = 1 := by kernel_rfl
theorem cellsBo : Tryd.prog.cellsOf 4 = 1 := by kernel_rfl
theorem cellsU64 : Tryd.prog.cellsOf 25 = 1 := by kernel_rfl
theorem cellsI : Tryd.prog.cellsOf 41 = 4 := by kernel_rfl
theorem bytesI : Tryd.prog.bytesOf 41 = 32 := by kernel_rfl
theorem cellsLk : Tryd.prog.cellsOf 43 = 4 := by kernel_rfl
theorem cellsSl : Tryd.prog.cellsOf 33 = 1 := by kernel_rfl
theorem cellsSk : Tryd.prog.cellsOf 23 = 1 := by kernel_rfl
theorem cellsStt : Tryd.prog.cellsOf 56 = 3 := by kernel_rfl
theorem cellsMd : Tryd.prog.cellsOf 27 = 6 := by kernel_rfl
theorem cellsPs : Tryd.prog.cellsOf 22 = 1 := by kernel_rfl
theorem cellsSs : Tryd.prog.cellsOf 24 = 1 := by kernel_rfl
theorem own : ownKnob Tryd.prog.godebug = none := by kernel_rfl
theorem laidOut : laidOutB Tryd.prog = true := by kernel_rfl
theorem wf_i64 {n : Int} (h : (Lit.int .i64 n).wf = true) : -9223372036854775808 ≤ n ∧ n ≤ 9223372036854775807 := by
  simp [Lit.wf, IntKind.min, IntKind.max, IntKind.signed, IntKind.bits] at h
  omega
theorem wf_u64 {n : Int} (h : (Lit.int .u64 n).wf = true) : 0 ≤ n ∧ n < 18446744073709551616 := by
  simp [Lit.wf, IntKind.min, IntKind.max, IntKind.signed, IntKind.bits] at h
  omega

section
variable {H : Type} {enc : TypeId × Value → H} {w : World} {base : Nat} {spare : Nat → Bool} {held : Bool}

set_option maxRecDepth 100000 in
theorem openI {fuel : Nat} {cs : List Value} {x : DataW H × List MemPlace} (h : DataW.trod enc Tryd.prog w base spare held fuel 41 cs = some x) :
    ∃ i : I, cs = i.cells.toList ∧ i.fits := by
  obtain ⟨xs, n, _, _, hlen, hxl, hg⟩ := DataW.trod_struct Tryd.underlying41 h
  have hc : cs.length = 4 := hlen.trans cellsI
  match cs, hc with
  | [c0, c1, c2, c3], _ =>
    match xs, hxl with
    | [y0, y1, y2, y3], _ =>
      have g0 := hg 0 _ rfl
      have g1 := hg 1 _ rfl
      have g2 := hg 2 _ rfl
      have g3 := hg 3 _ rfl
      simp [cellsN] at g0 g1 g2 g3
      obtain ⟨n0, h0, _, w0⟩ := DataW.trod_int Tryd.underlying3 g0
      obtain ⟨n1, h1, _, w1⟩ := DataW.trod_int Tryd.underlying3 g1
      obtain ⟨n2, h2, _, w2⟩ := DataW.trod_int Tryd.underlying3 g2
      obtain ⟨n3, h3, _, w3⟩ := DataW.trod_int Tryd.underlying3 g3
      simp only [List.cons.injEq, and_true] at h0 h1 h2 h3
      subst h0 h1 h2 h3
      exact ⟨⟨n0, n1, n2, n3⟩, rfl, w0, w1, w2, w3⟩
theorem openLk {fuel : Nat} {cs : List Value} {x : DataW H × List MemPlace} (h : DataW.trod enc Tryd.prog w base spare held fuel 43 cs = some x) :
    ∃ l : Lk, cs = l.cells.toList := by
  obtain ⟨xs, n, _, _, hlen, hxl, hg⟩ := DataW.trod_struct Tryd.underlying43 h
  have hc : cs.length = 4 := hlen.trans cellsLk
  match cs, hc with
  | [c0, c1, c2, c3], _ =>
    match xs, hxl with
    | [y0, y1, y2, y3], _ =>
      have g0 := hg 0 _ rfl
      have g1 := hg 1 _ rfl
      have g2 := hg 2 _ rfl
      have g3 := hg 3 _ rfl
      simp [cellsN, cellsL, cellsBo] at g0 g1 g2 g3
      obtain ⟨n0, h0, _, w0⟩ := DataW.trod_int Tryd.underlying3 g0
      obtain ⟨n1, h1, _, w1⟩ := DataW.trod_int Tryd.underlying3 g1
      obtain ⟨n2, h2, _, w2⟩ := DataW.trod_int Tryd.underlying2 g2
      obtain ⟨b3, h3, _⟩ := DataW.trod_bool Tryd.underlying4 g3
      simp only [List.cons.injEq, and_true] at h0 h1 h2 h3
      subst h0 h1 h2 h3
      exact ⟨⟨n0, n1, n2, b3⟩, rfl⟩
theorem openIs {fuel : Nat} {a : Option Addr} {len cap : Nat} {x : DataW H × List MemPlace} (h : DataW.trod enc Tryd.prog w base spare held fuel 33 [.slice a len cap] = some x) (hlt : ∀ y ∈ x.2, y.block < w.heap.size) :
    ∃ is : List I, Inss w a len cap is := by
  rcases open_slice Tryd.underlying33 h with ⟨hcs, _⟩ | ⟨y, l, c, m, n, D, Pl, hcs, _, hl, hm, hmm, hx, hi⟩
  · simp at hcs
    obtain ⟨rfl, rfl, rfl⟩ := hcs
    exact ⟨[], rfl, by omega, by unfold maxLen; omega, by simp, .inl rfl⟩
  · simp at hcs
    obtain ⟨rfl, rfl, rfl⟩ := hcs
    have hml : len ≤ m := by rw [hmm]; split <;> omega
    have hM : ∀ i, i < len → ∃ mm : I, mm.fits ∧ ∀ j, j < 4 → w.cell? ((y.add (i * 4)).add j) = mm.cells.toList[j]? := by
      intro i hilt
      obtain ⟨cs', hc, ht⟩ := hi i (by omega)
      rw [cellsI] at hc
      obtain ⟨mm, rfl, wm⟩ := openI ht
      obtain ⟨_, _, hat⟩ := World.cells?_some hc
      exact ⟨mm, wm, hat⟩
    refine ⟨(List.range len).map fun i => if hilt : i < len then (hM i hilt).choose else default, by simp, hl, hm, ?_, ?_⟩
    · intro mm hmem
      simp only [List.mem_map, List.mem_range] at hmem
      obtain ⟨i, hilt, rfl⟩ := hmem
      rw [dif_pos hilt]
      exact (hM i hilt).choose_spec.1
    · by_cases h0 : len = 0
      · exact .inl h0
      · obtain ⟨b, off, spot⟩ := y
        have hspot : spot = none := by
          have := (hM 0 (by omega)).choose_spec.2 0 (by omega)
          simp [I.cells] at this
          simpa [Addr.add] using World.cell?_spot this
        subst hspot
        have hbW : b < w.heap.size := by
          refine hlt (.cell b off) ?_
          rw [hx, cellsI]
          exact List.mem_append_left _ (MemPlace.mem_row.2 ⟨0, by omega, by simp⟩)
        refine .inr ⟨b, off, rfl, fun i hilt => ?_⟩
        have hc := (hM i hilt).choose_spec.2
        have hg : ((List.range len).map fun i => if hilt : i < len then (hM i hilt).choose else default).getD i default = (hM i hilt).choose := by
          simp [List.getD_eq_getElem?_getD, hilt]
        rw [hg]
        generalize (hM i hilt).choose = mm at hc
        simp only [add_plain] at hc
        exact ⟨hbW, hc 0 (by omega), hc 1 (by omega), hc 2 (by omega), hc 3 (by omega)⟩
theorem openIs_len {ts : List TypeId} {ds : List (DataW H)} (h : (DataW.weightsEach Tryd.prog ts ds).all (· ≤ reachBytes) = true) {j : Nat} {d : DataW H} {a : Option Addr} {len cap : Nat} {p : List MemPlace} (ht : ts[j]? = some 33) (hd : ds[j]? = some d)
    (hk : DataW.Trod enc Tryd.prog w base spare held 33 (.slice a len cap) d p) : len * 32 ≤ 140737488351232 := by
  obtain ⟨fuel, hf⟩ := hk
  simp [Value.cells] at hf
  rcases open_slice Tryd.underlying33 hf with ⟨hcs, _⟩ | ⟨y, l, c, m, n, D, Pl, hcs, _, hl, hm, hmm, hx, hi⟩
  · simp at hcs
    omega
  · simp at hcs
    obtain ⟨rfl, rfl, rfl⟩ := hcs
    simp only [Prod.mk.injEq] at hx
    have := sized_slice h ht (hd.trans (by rw [hx.1])) Tryd.underlying33
    rw [bytesI] at this
    simp only [List.length_map, List.length_range, reachBytes] at this
    omega
theorem openLs {fuel : Nat} {a : Option Addr} {len cap : Nat} {x : DataW H × List MemPlace} (h : DataW.trod enc Tryd.prog w base spare held fuel 23 [.slice a len cap] = some x) (hlt : ∀ y ∈ x.2, y.block < w.heap.size) :
    ∃ ls : List Lk, Lks w a len cap ls := by
  rcases open_slice Tryd.underlying23 h with ⟨hcs, _⟩ | ⟨y, l, c, m, n, D, Pl, hcs, _, hl, hm, hmm, hx, hi⟩
  · simp at hcs
    obtain ⟨rfl, rfl, rfl⟩ := hcs
    exact ⟨[], rfl, by omega, by unfold maxLen; omega, .inl rfl⟩
  · simp at hcs
    obtain ⟨rfl, rfl, rfl⟩ := hcs
    have hml : len ≤ m := by rw [hmm]; split <;> omega
    have hM : ∀ i, i < len → ∃ mm : Lk, ∀ j, j < 4 → w.cell? ((y.add (i * 4)).add j) = mm.cells.toList[j]? := by
      intro i hilt
      obtain ⟨cs', hc, ht⟩ := hi i (by omega)
      rw [cellsLk] at hc
      obtain ⟨mm, rfl⟩ := openLk ht
      obtain ⟨_, _, hat⟩ := World.cells?_some hc
      exact ⟨mm, hat⟩
    refine ⟨(List.range len).map fun i => if hilt : i < len then (hM i hilt).choose else default, by simp, hl, hm, ?_⟩
    by_cases h0 : len = 0
    · exact .inl h0
    · obtain ⟨b, off, spot⟩ := y
      have hspot : spot = none := by
        have := (hM 0 (by omega)).choose_spec 0 (by omega)
        simp [Lk.cells] at this
        simpa [Addr.add] using World.cell?_spot this
      subst hspot
      have hbW : b < w.heap.size := by
        refine hlt (.cell b off) ?_
        rw [hx, cellsLk]
        exact List.mem_append_left _ (MemPlace.mem_row.2 ⟨0, by omega, by simp⟩)
      refine .inr ⟨b, off, rfl, fun i hilt => ?_⟩
      have hc := (hM i hilt).choose_spec
      have hg : ((List.range len).map fun i => if hilt : i < len then (hM i hilt).choose else default).getD i default = (hM i hilt).choose := by
        simp [List.getD_eq_getElem?_getD, hilt]
      rw [hg]
      generalize (hM i hilt).choose = mm at hc
      simp only [add_plain] at hc
      exact ⟨hbW, hc 0 (by omega), hc 1 (by omega), hc 2 (by omega), hc 3 (by omega)⟩
theorem trod_sl {t e : TypeId} (ht : Tryd.prog.underlying t = some (.slice e)) {fuel : Nat} {c : Value} {x : DataW H × List MemPlace} (h : DataW.trod enc Tryd.prog w base spare held fuel t [c] = some x) : ∃ a len cap, c = .slice a len cap := by
  rcases open_slice ht h with ⟨hcs, _⟩ | ⟨y, l, c', m, n, D, Pl, hcs, _⟩
  · simp at hcs
    exact ⟨_, _, _, hcs⟩
  · simp at hcs
    exact ⟨_, _, _, hcs⟩
theorem openStt {fuel : Nat} {cs : List Value} {x : DataW H × List MemPlace} (h : DataW.trod enc Tryd.prog w base spare held fuel 56 cs = some x) :
    ∃ s : Stt, cs = [.int .i64 s.dst, .int .i64 s.t, .int .i64 s.v] := by
  obtain ⟨xs, n, _, _, hlen, hxl, hg⟩ := DataW.trod_struct Tryd.underlying56 h
  have hc : cs.length = 3 := hlen.trans cellsStt
  match cs, hc with
  | [c0, c1, c2], _ =>
    match xs, hxl with
    | [y0, y1, y2], _ =>
      have g0 := hg 0 _ rfl
      have g1 := hg 1 _ rfl
      have g2 := hg 2 _ rfl
      simp [cellsN, cellsL] at g0 g1 g2
      obtain ⟨n0, h0, _, w0⟩ := DataW.trod_int Tryd.underlying3 g0
      obtain ⟨n1, h1, _, w1⟩ := DataW.trod_int Tryd.underlying2 g1
      obtain ⟨n2, h2, _, w2⟩ := DataW.trod_int Tryd.underlying2 g2
      simp only [List.cons.injEq, and_true] at h0 h1 h2
      subst h0 h1 h2
      exact ⟨⟨n0, n1, n2⟩, rfl⟩
theorem openSs {fuel : Nat} {a : Option Addr} {len cap : Nat} {x : DataW H × List MemPlace} (h : DataW.trod enc Tryd.prog w base spare held fuel 24 [.slice a len cap] = some x) (hlt : ∀ y ∈ x.2, y.block < w.heap.size) :
    ∃ ls : List Stt, Stts w a len cap ls := by
  rcases open_slice Tryd.underlying24 h with ⟨hcs, _⟩ | ⟨y, l, c, m, n, D, Pl, hcs, _, hl, hm, hmm, hx, hi⟩
  · simp at hcs
    obtain ⟨rfl, rfl, rfl⟩ := hcs
    exact ⟨[], rfl, by omega, by unfold maxLen; omega, .inl rfl⟩
  · simp at hcs
    obtain ⟨rfl, rfl, rfl⟩ := hcs
    have hml : len ≤ m := by rw [hmm]; split <;> omega
    have hM : ∀ i, i < len → ∃ mm : Stt, ∀ j, j < 3 → w.cell? ((y.add (i * 3)).add j) = [Value.int .i64 mm.dst, Value.int .i64 mm.t, Value.int .i64 mm.v][j]? := by
      intro i hilt
      obtain ⟨cs', hc, ht⟩ := hi i (by omega)
      rw [cellsStt] at hc
      obtain ⟨mm, rfl⟩ := openStt ht
      obtain ⟨_, _, hat⟩ := World.cells?_some hc
      exact ⟨mm, hat⟩
    refine ⟨(List.range len).map fun i => if hilt : i < len then (hM i hilt).choose else default, by simp, hl, hm, ?_⟩
    by_cases h0 : len = 0
    · exact .inl h0
    · obtain ⟨b, off, spot⟩ := y
      have hspot : spot = none := by
        have := (hM 0 (by omega)).choose_spec 0 (by omega)
        simp at this
        simpa [Addr.add] using World.cell?_spot this
      subst hspot
      have hbW : b < w.heap.size := by
        refine hlt (.cell b off) ?_
        rw [hx, cellsStt]
        exact List.mem_append_left _ (MemPlace.mem_row.2 ⟨0, by omega, by simp⟩)
      refine .inr ⟨b, off, rfl, fun i hilt => ?_⟩
      have hc := (hM i hilt).choose_spec
      have hg : ((List.range len).map fun i => if hilt : i < len then (hM i hilt).choose else default).getD i default = (hM i hilt).choose := by
        simp [List.getD_eq_getElem?_getD, hilt]
      rw [hg]
      generalize (hM i hilt).choose = mm at hc
      simp only [add_plain] at hc
      exact ⟨hbW, hc 0 (by omega), hc 1 (by omega), hc 2 (by omega)⟩
theorem openPs {fuel : Nat} {a : Option Addr} {len cap : Nat} {x : DataW H × List MemPlace} (h : DataW.trod enc Tryd.prog w base spare held fuel 22 [.slice a len cap] = some x) (hlt : ∀ y ∈ x.2, y.block < w.heap.size) :
    ∃ ps : List (List I), Prs w a len cap ps := by
  rcases open_slice Tryd.underlying22 h with ⟨hcs, _⟩ | ⟨y, l, c, m, n, D, Pl, hcs, _, hl, hm, hmm, hx, hi⟩
  · simp at hcs
    obtain ⟨rfl, rfl, rfl⟩ := hcs
    exact ⟨[], rfl, by omega, by unfold maxLen; omega, .inl rfl⟩
  · simp at hcs
    obtain ⟨rfl, rfl, rfl⟩ := hcs
    have hml : len ≤ m := by rw [hmm]; split <;> omega
    have hM : ∀ i, i < len → ∃ q : Option Addr × Nat × Nat × List I, w.cell? (y.add i) = some (.slice q.1 q.2.1 q.2.2.1) ∧ Inss w q.1 q.2.1 q.2.2.1 q.2.2.2 := by
      intro i hilt
      obtain ⟨cs', hc, ht⟩ := hi i (by omega)
      rw [cellsSl, Nat.mul_one] at hc
      obtain ⟨hl1, _, hat⟩ := World.cells?_some hc
      match cs', hl1 with
      | [c], _ =>
        obtain ⟨a', l', c', rfl⟩ := trod_sl Tryd.underlying33 ht
        obtain ⟨is, hI⟩ := openIs ht (fun z hz => hlt z (by rw [hx]; exact List.mem_append_right _ (List.mem_flatMap.2 ⟨i, List.mem_range.2 (by omega), hz⟩)))
        have h0 := hat 0 (by omega)
        have ez : ∀ z : Addr, z.add 0 = z := fun z => by unfold Addr.add; split <;> simp_all
        rw [ez] at h0
        simp at h0
        exact ⟨⟨a', l', c', is⟩, h0, hI⟩
    refine ⟨(List.range len).map fun i => if hilt : i < len then (hM i hilt).choose.2.2.2 else [], by simp, hl, hm, ?_⟩
    by_cases h0 : len = 0
    · exact .inl h0
    · obtain ⟨b, off, spot⟩ := y
      have hspot : spot = none := by
        have := (hM 0 (by omega)).choose_spec.1
        simpa [Addr.add] using World.cell?_spot this
      subst hspot
      have hbW : b < w.heap.size := by
        refine hlt (.cell b off) ?_
        rw [hx, cellsSl]
        exact List.mem_append_left _ (MemPlace.mem_row.2 ⟨0, by omega, by simp⟩)
      refine .inr ⟨b, off, rfl, fun i hilt => ?_⟩
      have hc := (hM i hilt).choose_spec
      have hg : ((List.range len).map fun i => if hilt : i < len then (hM i hilt).choose.2.2.2 else []).getD i [] = (hM i hilt).choose.2.2.2 := by
        simp [List.getD_eq_getElem?_getD, hilt]
      rw [hg]
      generalize (hM i hilt).choose = q at hc
      simp only [add_plain] at hc
      exact ⟨q.1, q.2.1, q.2.2.1, hbW, hc.1, hc.2⟩
theorem openMd {fuel : Nat} {cs : List Value} {x : DataW H × List MemPlace} (h : DataW.trod enc Tryd.prog w base spare held fuel 27 cs = some x) (hlt : ∀ y ∈ x.2, y.block < w.heap.size) :
    ∃ (v : Mv) (M : Md), cs = (v.cells M).toList ∧ Mds w v M := by
  obtain ⟨xs, n, _, hx, hlen, hxl, hg⟩ := DataW.trod_struct Tryd.underlying27 h
  have hc : cs.length = 6 := hlen.trans cellsMd
  match cs, hc with
  | [c0, c1, c2, c3, c4, c5], _ =>
    match xs, hxl with
    | [y0, y1, y2, y3, y4, y5], _ =>
      have g0 := hg 0 _ rfl
      have g1 := hg 1 _ rfl
      have g2 := hg 2 _ rfl
      have g3 := hg 3 _ rfl
      have g4 := hg 4 _ rfl
      have g5 := hg 5 _ rfl
      simp [cellsPs, cellsSk, cellsSs, cellsU64, cellsL, cellsN] at g0 g1 g2 g3 g4 g5
      obtain ⟨pa, pl, pc, rfl⟩ := trod_sl Tryd.underlying22 g0
      obtain ⟨la, ll, lc, rfl⟩ := trod_sl Tryd.underlying23 g1
      obtain ⟨sa, sl, sc, rfl⟩ := trod_sl Tryd.underlying24 g2
      obtain ⟨n3, h3, _, w3⟩ := DataW.trod_int Tryd.underlying25 g3
      obtain ⟨n4, h4, _, w4⟩ := DataW.trod_int Tryd.underlying2 g4
      obtain ⟨n5, h5, _, w5⟩ := DataW.trod_int Tryd.underlying3 g5
      simp only [List.cons.injEq, and_true] at h3 h4 h5
      subst h3 h4 h5
      have hx2 : x.2 = y0.2 ++ (y1.2 ++ (y2.2 ++ (y3.2 ++ (y4.2 ++ (y5.2 ++ []))))) := by rw [hx]; simp
      obtain ⟨ps, hP⟩ := openPs g0 (fun y hy => hlt y (by rw [hx2]; simp [hy]))
      obtain ⟨ls, hL⟩ := openLs g1 (fun y hy => hlt y (by rw [hx2]; simp [hy]))
      obtain ⟨ss, hS⟩ := openSs g2 (fun y hy => hlt y (by rw [hx2]; simp [hy]))
      have w3' := wf_u64 w3
      obtain ⟨sd, rfl⟩ := Int.eq_ofNat_of_zero_le w3'.1
      exact ⟨⟨pa, pl, pc, la, ll, lc, sa, sl, sc⟩, ⟨ps, ls, ss, sd, n4, n5⟩, rfl, hP, hL, hS, by simp only; omega⟩
theorem openMdarg {r : Reach} {b0 : Nat} {v : Value} {d : DataW H} {p : List MemPlace} (hv : Value.okWide Tryd.prog w r b0 27 v) (h : DataW.Trod enc Tryd.prog w base spare held 27 v d p) (hlt : ∀ y ∈ p, y.block < w.heap.size) : ∃ (u : Mv) (M : Md), v = u.val M ∧ Mds w u M := by
  obtain ⟨cs, rfl, _⟩ := okWide_struct Tryd.underlying27 hv
  obtain ⟨fuel, hf⟩ := h
  obtain ⟨u, M, hm, hW⟩ := openMd hf hlt
  refine ⟨u, M, ?_, hW⟩
  obtain ⟨l⟩ := cs
  simp [Value.cells, Mv.cells] at hm
  rw [hm]
  rfl
end
end Go.Proofs.YtofkfajcibdneaaDoor
