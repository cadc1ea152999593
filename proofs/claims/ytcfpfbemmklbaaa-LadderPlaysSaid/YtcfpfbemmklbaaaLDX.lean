/-
  The law that there is one message of a sending; awake.
  The law that what is put into a ladder is popped in order, each once.
  The law that a message that is cut out of a ladder is the one of its sending, and all others stay.
-/
import Derived.Test.YtcfpfbemmklbaaaLDU
import Derived.Test.YtcfpfbemmklbaaaSortedC
import Derived.Lib.MinMax
import Derived.Test.YtcfpfbemmklbaaaSame
import Derived.LoopTactic
namespace Go.Proofs.Ytcfpfbemmklbaaa
open Go.ChangeShapes Go.WideShapes Go.ChangeAt Go.Shelf Go.RowKit Go.Lib Go.Sort Go.Deep Go.Maps
set_option linter.unusedVariables false

theorem CStep.belowB {w w' : World} {S S' : Nat → Prop} {B : Nat} (h : CStep w w' S S') (hS : ∀ k, S k → B ≤ k) (hB : B ≤ w.heap.size) : Below B w w' ∧ ∀ k, S' k → B ≤ k :=
  ⟨h.1.below (fun k _ e => hS k e) hB, fun k e => (h.2 k e).elim (hS k) (fun e => Nat.le_trans hB e)⟩
theorem zero_fits1 : (⟨⟨0, 0, 0⟩, 0, 0, 1, false⟩ : M).fits := ⟨⟨by kernel_rfl, by kernel_rfl, by kernel_rfl⟩, by kernel_rfl, by kernel_rfl, by kernel_rfl⟩
set_option maxHeartbeats 1000000 in
theorem awake8_any (w : World) : Calls Try.prog 14 #[] w fun e w' => e = .returned (.bool true) ∧ Below w.heap.size w w' := by
  have hst : Hid (∀ w1, CalAt w1 (w.heap.size + 2) (newS w) [] ∧ Below w.heap.size w w1 → Calls Try.prog 15 #[.pointer (some ⟨w.heap.size + 2, 0, none⟩), .agg #[.int .i64 0, .int .i64 0, .int .i64 0, .int .i64 0, .int .i64 0, .int .i64 1, .bool false]] w1 fun e w2 => e = .returned (.int .i64 0) ∧
      Hid (Calls Try.prog 11 #[.pointer (some ⟨w.heap.size + 2, 0, none⟩)] w2 fun e w3 => e = .returned (.int .i64 1) ∧ w2 = w3 ∧ Below w.heap.size w w3)) := by
    rintro w1 ⟨hq, hb⟩
    refine (hPush_takes hq ⟨⟨0, 0, 0⟩, 0, 0, 1, false⟩ zero_fits1 rfl (by simp)).mono ?_
    rintro e w2 ⟨he, S', hq', hs⟩
    refine ⟨he, (hLen_any hq').mono ?_⟩
    rintro e w3 ⟨he3, rfl⟩
    exact ⟨by rw [he3, mg_length]; rfl, rfl, hb.trans (hs.belowB (fun k e => e.1) hb.size).1⟩
  have hnew := hNew_any w (W := 4) (by omega) (by kernel_rfl)
  go_enter Try.func14, Try.ntmps14
  go_wp2_with (first
    | (go_at_call 8; refine hnew.mono ?_; rintro e w1 ⟨rfl, hQ1⟩; have hp := hst.out w1 hQ1.out; clear hQ1)
    | (go_at_call 15; (with_reducible refine hp.mono ?_); rintro e w2 ⟨rfl, h2⟩; have hl := h2.out; clear h2)
    | (go_at_call 11; (with_reducible refine hl.mono ?_); rintro e w3 ⟨rfl, rfl, hb⟩; have hb' := Lib.hid hb; clear hb))
  go_ret
  exact ⟨rfl, hb'.out⟩

/-- b as a message of a's sending. -/
def asOf (a b : M) : M := ⟨⟨b.k.t, a.k.f, b.k.s⟩, b.to, b.v, a.u, b.anti⟩
theorem asOf_fits {a b : M} (ha : a.fits) (hb : b.fits) : (asOf a b).fits := ⟨⟨hb.1.1, ha.1.2.1, hb.1.2.2⟩, hb.2.1, hb.2.2.1, ha.2.2.2⟩
theorem BoxM.asOf {w : World} {B : Nat} {b : M} (h : BoxM w B b) (a : M) : BoxM ((w.setCell ⟨B, 1, none⟩ (.int .i64 a.k.f)).setCell ⟨B, 5, none⟩ (.int .i64 a.u)) B (asOf a b) := by
  unfold BoxM at h ⊢
  simp [World.setCell, Array.getElem?_modify, h, M.cells, Go.Proofs.Ytcfpfbemmklbaaa.asOf]
theorem hasS_self {T : List M} {m : M} (h : m ∈ T) : hasS T m.k.f m.u = true := hasS_iff.2 ⟨m, h, rfl, rfl⟩
theorem pushT_mem {T : List M} {m x : M} (h : x ∈ T) : x ∈ pushT T m := by
  unfold pushT
  split
  · exact h
  · split
    · exact h
    · exact (mg_perm T [m]).mem_iff.2 (List.mem_append_left _ h)
theorem pushT_length (T : List M) (m : M) : (pushT T m).length ≤ T.length + 1 := by
  unfold pushT
  split
  · omega
  · split
    · omega
    · rw [mg_length]; simp
/-- In a list of unlike ones, the one of a sending is the one. -/
theorem unlike_eq {T : List M} (hU : Unlike T) {a : M} (ha : a ∈ T) {i : Nat} (hi : i < T.length) (h1 : T[i].k.f = a.k.f) (h2 : T[i].u = a.u) : T[i] = a := by
  obtain ⟨j, hj, rfl⟩ := List.getElem_of_mem ha
  rcases Nat.lt_trichotomy i j with h | rfl | h
  · exact absurd ⟨h1, h2⟩ (List.pairwise_iff_getElem.1 hU i j hi hj h)
  · rfl
  · exact absurd ⟨h1.symm, h2.symm⟩ (List.pairwise_iff_getElem.1 hU j i hj hi h)

/-- What stands behind k rounds. -/
def TwiceAt (B : Nat) (W wr : World) (a : M) (k : Nat) : Prop :=
  ∃ S T, CalAt wr (B + 2) S T ∧ a ∈ T ∧ T.length ≤ k + 1 ∧ (∀ k, S k → B ≤ k) ∧ B ≤ W.heap.size ∧ Below B W wr
theorem twice_step {B : Nat} {W wr : World} {a : M} {k : Nat} (h : TwiceAt B W wr a k) (m : M) (hm : m.fits) :
    Calls Try.prog 15 #[.pointer (some ⟨B + 2, 0, none⟩), m.val] wr fun e w' => (∃ c : Int, e = .returned (.int .i64 c)) ∧ TwiceAt B W w' a (k + 1) := by
  obtain ⟨S, T, hq, ha, hl, hS, hW, hb⟩ := h
  refine (hPush_any hq m hm).mono ?_
  rintro e w' ⟨he, S', hq', hs⟩
  have h2 := hs.belowB hS (Nat.le_trans hW hb.size)
  exact ⟨⟨_, he⟩, S', _, hq', pushT_mem ha, by have := pushT_length T m; omega, h2.2, hW, hb.trans h2.1⟩
/-- The last three calls. -/
theorem twice_end {B : Nat} {W wr : World} {a b : M} {k : Nat} (h : TwiceAt B W wr a k) (ha : a.fits) (hb : b.fits) (hk : k ≤ 100) :
    Calls Try.prog 18 #[.pointer (some ⟨B + 2, 0, none⟩), .int .i64 a.k.f, .int .i64 a.u] wr fun e w1 => e = .returned (.tuple #[a.val, .int .i64 0]) ∧ Below B W w1 ∧ ∀ w2, Below w1.heap.size w1 w2 →
      Calls Try.prog 15 #[.pointer (some ⟨B + 2, 0, none⟩), (asOf a b).val] w2 fun e w3 => e = .returned (.int .i64 0) ∧ Below B W w3 ∧ ∀ w4, Below w3.heap.size w3 w4 →
        Calls Try.prog 15 #[.pointer (some ⟨B + 2, 0, none⟩), a.val] w4 fun e w5 => e = .returned (.int .i64 8) ∧ Below B W w5 := by
  obtain ⟨S, T, hq, hm, hl, hS, hWB, hB⟩ := h
  obtain ⟨i, hi, ea⟩ := List.getElem_of_mem hm
  have hp : (a :: T.eraseIdx i).Perm T := by
    have := erase_perm hi
    rwa [ea] at this
  have hO : InOrder ltM (T.eraseIdx i) := (erase_keeps i hq.o hq.u).1
  refine (hCut_some hq hp hO).mono ?_
  rintro e w1 ⟨he, S1, hq1, hs1⟩
  have hBr := Nat.le_trans hWB hB.size
  have h1 := hs1.belowB hS hBr
  have hB1 := hB.trans h1.1
  have hsz1 : B ≤ w1.heap.size := Nat.le_trans hWB hB1.size
  refine ⟨he, hB1, fun w2 hb2 => ?_⟩
  have hn : hasS (T.eraseIdx i) a.k.f a.u = false := by
    rw [hasS_erase hp hq.u]
    simp
  have hll : (T.eraseIdx i).length ≤ 101 := by
    have := List.length_eraseIdx_le T i
    omega
  have hq2 := hq1.below hb2
  refine (hPush_takes hq2 (asOf a b) (asOf_fits ha hb) hn (by omega)).mono ?_
  rintro e w3 ⟨he3, S3, hq3, hs3⟩
  have h3 := hs3.belowB h1.2 (Nat.le_trans hsz1 hb2.size)
  have hB3 := (hB1.trans (hb2.mono hsz1)).trans h3.1
  refine ⟨he3, hB3, fun w4 hb4 => ?_⟩
  have hq4 := hq3.below hb4
  have hmem : hasS (mg ltM (T.eraseIdx i) [asOf a b]) a.k.f a.u = true := hasS_iff.2 ⟨asOf a b, (mg_perm _ _).mem_iff.2 (by simp), rfl, rfl⟩
  refine (hPush_stay hq4 a ha (.inl hmem)).mono ?_
  rintro e w5 ⟨he5, hb5⟩
  have hsz3 : B ≤ w3.heap.size := Nat.le_trans hWB hB3.size
  refine ⟨?_, (hB3.trans (hb4.mono hsz3)).trans (hb5.mono (Nat.le_trans hsz3 hb4.size))⟩
  rw [he5]
  unfold pushC
  rw [if_pos hmem]

set_option maxHeartbeats 4000000 in
set_option maxRecDepth 100000 in
theorem lawLadderTwice_wide (Wd : Int) (hWf : (Lit.int .i64 Wd).wf = true) (hWd : 1 ≤ Wd ∧ Wd ≤ 16384) (a : M) (ha : a.fits) (b : M) (hb : b.fits) {w : World} {sa : Option Addr} {len cap : Nat} {ms : List M} (h : Msgs w sa len cap ms) (hr : len * 56 ≤ 140737488351232) :
    Calls Try.prog 7 #[.int .i64 Wd, a.val, b.val, .slice sa len cap] w fun e w' => e = .returned (.bool true) ∧ Below w.heap.size w w' := by
  have mixed := mixed
  have hcapI : cap ≤ 9223372036854775807 ∧ len ≤ cap := by have h1 := h.2.1; have h2 := h.2.2.1; unfold maxLen at h2; omega
  obtain ⟨hcap1, hcap2⟩ := hcapI
  have hfit := Lib.hid h.2.2.2.1
  have hms := Lib.hid h
  have hlen := Lib.hid h.1
  have hW : Hid (Below w.heap.size w ((w.alloc (.cells a.cells 34)).alloc (.cells b.cells 34))) := ((Below.refl _ w).alloc (Nat.le_refl _) _).alloc (by simp) _
  have hA : Hid (BoxM ((w.alloc (.cells a.cells 34)).alloc (.cells b.cells 34)) w.heap.size a) := (BoxM.mk w a).kept (S := fun _ => False) (.of_below ((Below.refl _ _).alloc (Nat.le_refl _) _)) (fun e => e)
  have hBb : Hid (BoxM ((w.alloc (.cells a.cells 34)).alloc (.cells b.cells 34)) (w.heap.size + 1) b) := by
    have := BoxM.mk (w.alloc (.cells a.cells 34)) b
    show BoxM _ _ _
    simpa using this
  have hsz : Hid (((w.alloc (.cells a.cells 34)).alloc (.cells b.cells 34)).heap.size = w.heap.size + 2) := by show _ = _; simp
  have ha' := Lib.hid ha
  have hb' := Lib.hid hb
  clear h ha hb
  have haa := fun w => eqlM a a w
  simp only [decide_true, M.val] at haa
  simp only [M.val, M.cells] at hW hA hBb hsz ⊢
  go_enter Try.func7, Try.ntmps7
  go_upto_region 1 with (fail)
  generalize (w.alloc (.cells #[.int .i64 a.k.t, .int .i64 a.k.f, .int .i64 a.k.s, .int .i64 a.to, .int .i64 a.v, .int .i64 a.u, .bool a.anti] 34)).alloc (.cells #[.int .i64 b.k.t, .int .i64 b.k.f, .int .i64 b.k.s, .int .i64 b.to, .int .i64 b.v, .int .i64 b.u, .bool b.anti] 34) = W0 at hW hA hBb hsz ⊢
  have hnew := hNew_any W0 hWd hWf
  obtain ⟨B, hB⟩ : ∃ B, B = W0.heap.size := ⟨_, rfl⟩
  rw [← hB] at hnew hsz
  have hBe := Lib.hid hB
  clear hB
  go_upto_region 4 with (go_at_call 8; refine hnew.mono ?_; rintro e w1 ⟨rfl, hQ1'⟩)
  have hA1 := hA.out.kept (S := fun _ => False) (.of_below (hBe.out ▸ hQ1'.out.2)) (fun e => e)
  have hB1 := hBb.out.kept (S := fun _ => False) (.of_below (hBe.out ▸ hQ1'.out.2)) (fun e => e)
  obtain ⟨-, -, a1, -, -, -, a5, -⟩ := hA1.at
  obtain ⟨-, -, b1, -, -, -, b5, -⟩ := hB1.at
  simp only [Nat.zero_add] at a1 a5 b1 b5
  have f1 := hB1.fz 1
  have f5 := hB1.fz 5
  have hA1' := Lib.hid hA1
  have hB1' := Lib.hid hB1
  clear hA1 hB1 hnew
  go_upto_region 6 with (fail)
  have hk2 : KeptOff (fun k => k = w.heap.size + 1) w1 ((w1.setCell ⟨w.heap.size + 1, 1, none⟩ (.int .i64 a.k.f)).setCell ⟨w.heap.size + 1, 5, none⟩ (.int .i64 a.u)) := (KeptOff.set w1 ⟨w.heap.size + 1, 1, none⟩ _).trans (KeptOff.set _ ⟨w.heap.size + 1, 5, none⟩ _)
  have hB2 := Lib.hid (hB1'.out.asOf a)
  have hA2 := Lib.hid (hA1'.out.kept hk2 (by omega))
  have hBn := hsz.out
  have hq2 := Lib.hid (hQ1'.out.1.kept hk2 (fun k hk e => by have h1 := hk.1; have := hBe.out; omega))
  have hbw2 : Hid (Below w.heap.size w ((w1.setCell ⟨w.heap.size + 1, 1, none⟩ (.int .i64 a.k.f)).setCell ⟨w.heap.size + 1, 5, none⟩ (.int .i64 a.u))) := (hW.out.trans (hQ1'.out.2.mono (by omega))).trans (hk2.below (fun k _ e => by omega) (Nat.le_trans hW.out.size (by rw [← hBe.out]; exact hBe.out ▸ hQ1'.out.2.size)))
  generalize (w1.setCell ⟨w.heap.size + 1, 1, none⟩ (.int .i64 a.k.f)).setCell ⟨w.heap.size + 1, 5, none⟩ (.int .i64 a.u) = W2 at hB2 hA2 hq2 hbw2 ⊢
  clear a1 a5 b1 b5 f1 f5 hk2 hA1' hB1' hQ1' hBb hA
  have hsz2 : B ≤ W2.heap.size := by have := hq2.out.lt hq2.out.own; omega
  have hpa := hPush_takes hq2.out a ha'.out rfl (by simp)
  have hpb : Hid (∀ w3, PushPost W2 (B + 2) (newS W0) [] a w3 → BoxM w3 (w.heap.size + 1) (asOf a b) ∧ Calls Try.prog 15 #[.pointer (some ⟨B + 2, 0, none⟩), (asOf a b).val] w3 fun e w4 => e = .returned (.int .i64 8) ∧
      Calls Try.prog 11 #[.pointer (some ⟨B + 2, 0, none⟩)] w4 fun e w5 => e = .returned (.int .i64 1) ∧ w4 = w5 ∧ TwiceAt B W2 w4 a 0) := by
    rintro w3 ⟨S3, hq3, hs3⟩
    have hb3 := hs3.belowB (B := B) (fun k e => by have h1 := e.1; have := hBe.out; omega) hsz2
    rw [mg_nil_left] at hq3
    have hm : hasS [a] (asOf a b).k.f (asOf a b).u = true := hasS_iff.2 ⟨a, by simp, rfl, rfl⟩
    refine ⟨(hB2.out).kept hs3.1 (fun e => by have h1 := e.1; have := hBe.out; omega), (hPush_stay hq3 (asOf a b) (asOf_fits ha'.out hb'.out) (.inl hm)).mono ?_⟩
    rintro e w4 ⟨he, hb4⟩
    have hq4 := hq3.below hb4
    have hsz3 : B ≤ w3.heap.size := Nat.le_trans hsz2 hb3.1.size
    refine ⟨by rw [he]; unfold pushC; rw [if_pos hm], (hLen_any hq4).mono ?_⟩
    rintro e w5 ⟨he5, rfl⟩
    exact ⟨he5, rfl, S3, [a], hq4, by simp, by simp, hb3.2, hsz2, hb3.1.trans (hb4.mono hsz3)⟩
  obtain ⟨-, y0, y1, y2, y3, y4, y5, y6⟩ := hA2.out.at
  simp only [Nat.zero_add] at y0 y1 y2 y3 y4 y5 y6
  have hpa' := Lib.hid hpa
  simp only [M.val] at hpa' hpb
  have hstep : Hid (∀ wr k, k < len → k < 100 → TwiceAt B W2 wr a k → ∃ b0 off, sa = some ⟨b0, off, none⟩ ∧ MsgAt wr b0 (off + k * 7) (ms.getD k default) ∧
      Calls Try.prog 15 #[.pointer (some ⟨B + 2, 0, none⟩), (ms.getD k default).val] wr fun e w' => (∃ c : Int, e = .returned (.int .i64 c)) ∧ TwiceAt B W2 w' a (k + 1)) := by
    intro wr k hk h100 hT
    have hBB : Below w.heap.size w wr := by
      obtain ⟨_, _, _, _, _, _, _, hb⟩ := hT
      exact hbw2.out.trans (hb.mono (by omega))
    have hm2 := hms.out.below hBB
    rcases hm2.2.2.2.2 with h0 | ⟨b0, off, e, hm⟩
    · omega
    · exact ⟨b0, off, e, hm k hk, twice_step hT _ (hfit.out _ (by
        have : k < ms.length := by rw [hlen.out]; exact hk
        rw [List.getD_eq_getElem?_getD, List.getElem?_eq_getElem this]
        exact List.getElem_mem this))⟩
  have hend : Hid (∀ wr k, k ≤ 100 → TwiceAt B W2 wr a k → MsgAt wr w.heap.size 0 a ∧ Calls Try.prog 18 #[.pointer (some ⟨B + 2, 0, none⟩), .int .i64 a.k.f, .int .i64 a.u] wr fun e w1 => e = .returned (.tuple #[a.val, .int .i64 0]) ∧ ∀ w2, Below w1.heap.size w1 w2 →
      MsgAt w2 w.heap.size 0 a ∧ MsgAt w2 (w.heap.size + 1) 0 (asOf a b) ∧ Calls Try.prog 15 #[.pointer (some ⟨B + 2, 0, none⟩), (asOf a b).val] w2 fun e w3 => e = .returned (.int .i64 0) ∧ ∀ w4, Below w3.heap.size w3 w4 →
        MsgAt w4 w.heap.size 0 a ∧ Calls Try.prog 15 #[.pointer (some ⟨B + 2, 0, none⟩), a.val] w4 fun e w5 => e = .returned (.int .i64 8) ∧ Below w.heap.size w w5) := by
    intro wr k hk hT
    have hBr : Below B W2 wr := by obtain ⟨_, _, _, _, _, _, _, hb⟩ := hT; exact hb
    have key : ∀ W, Below B W2 W → MsgAt W w.heap.size 0 a ∧ MsgAt W (w.heap.size + 1) 0 (asOf a b) := fun W hW =>
      ⟨(hA2.out.kept (S := fun k => B ≤ k) ⟨hW.os, hW.tape, hW.output, hW.size, fun k _ hn => hW.block k (by omega)⟩ (by omega)).at,
        (hB2.out.kept (S := fun k => B ≤ k) ⟨hW.os, hW.tape, hW.output, hW.size, fun k _ hn => hW.block k (by omega)⟩ (by omega)).at⟩
    refine ⟨(key wr hBr).1, (twice_end (b := b) hT ha'.out hb'.out hk).mono ?_⟩
    rintro e w1 ⟨he, hb1, h1⟩
    refine ⟨he, fun w2 hw2 => ?_⟩
    have hb2 := hb1.trans (hw2.mono (Nat.le_trans hsz2 hb1.size))
    refine ⟨(key w2 hb2).1, (key w2 hb2).2, (h1 w2 hw2).mono ?_⟩
    rintro e w3 ⟨he3, hb3, h3⟩
    refine ⟨he3, fun w4 hw4 => ?_⟩
    have hb4 := hb3.trans (hw4.mono (Nat.le_trans hsz2 hb3.size))
    refine ⟨(key w4 hb4).1, (h3 w4 hw4).mono ?_⟩
    rintro e w5 ⟨he5, hb5⟩
    exact ⟨he5, hbw2.out.trans (hb5.mono (by omega))⟩
  have hab : Hid (∀ W, BoxM W (w.heap.size + 1) (asOf a b) → MsgAt W (w.heap.size + 1) 0 (asOf a b)) := fun W hW => hW.at
  generalize asOf a b = c at *
  simp only [M.val] at hend
  clear hpa hB2 hA2 hq2 hW hsz ha' hb' hbw2 hfit hlen hBn
  have hl1 : len ≤ 9223372036854775807 := by omega
  go_wp2_with (first
    | (go_at_call 15; (with_reducible refine hpa'.out.mono ?_); rintro e w3 ⟨rfl, h3⟩; have hb3 := hpb.out w3 h3; clear h3; obtain ⟨hb3, hb3c⟩ := hb3; have hb3x := hab.out _ hb3; obtain ⟨-, z0, z1, z2, z3, z4, z5, z6⟩ := hb3x; simp only [Nat.zero_add] at z0 z1 z2 z3 z4 z5 z6; clear hb3)
    | (go_at_call 15; (with_reducible refine hb3c.mono ?_); rintro e w4 ⟨rfl, hl4⟩; clear z0 z1 z2 z3 z4 z5 z6)
    | (go_at_call 11; (with_reducible refine hl4.mono ?_); rintro e w5 ⟨rfl, rfl, hT5⟩; have hT5' := Lib.hid hT5; clear hT5))
  go_loopw [11] (fun s8 wr => ∃ k : Nat, k ≤ len ∧ k ≤ 100 ∧ s8 = .int .i64 k ∧ Hid (TwiceAt B W2 wr a k)) (fun s8 _ => len - (intOf s8).toNat)
  case atStart => exact ⟨0, Nat.zero_le _, Nat.zero_le _, rfl, hT5'⟩
  case round =>
    obtain ⟨k, hk, hk1, rfl, hT⟩ := hrel
    clear hT5' hpb hpa' y0 y1 y2 y3 y4 y5 y6
    by_cases hkk : k < len ∧ k < 100
    · obtain ⟨hkl, hk3⟩ := hkk
      have hz : (k : Int) < (len : Int) := by omega
      have hz2 : (k : Int) < 100 := by omega
      obtain ⟨b0, off, rfl, hmk, hps⟩ := hstep.out wr k hkl hk3 hT.out
      generalize ms.getD k default = m at hmk hps
      obtain ⟨-, x0, x1, x2, x3, x4, x5, x6⟩ := hmk
      simp only [M.val] at hps
      clear hend hstep hT
      go_wp2_with (go_at_call 15; refine hps.mono ?_; rintro e w6 ⟨⟨c6, rfl⟩, hT6⟩; have hT6' := Lib.hid hT6; clear hT6)
      go_roundw
      case rel => exact ⟨k + 1, by omega, by omega, by go_num, hT6'⟩
      case measure => simp [intOf]; omega
    · obtain ⟨hma, hce⟩ := hend.out wr k hk1 hT.out
      have hce' := Lib.hid hce
      obtain ⟨-, -, y1, -, -, -, y5, -⟩ := hma
      simp only [Nat.zero_add] at y1 y5
      have hzz : (¬ (k : Int) < (len : Int)) ∨ ((k : Int) < (len : Int) ∧ ¬ (k : Int) < 100) := by omega
      clear hce hend hstep hT hab
      rcases hzz with hz | ⟨hz, hz2⟩
      all_goals
        go_upto_region 13 with (go_at_call 18; refine hce'.out.mono ?_; rintro e w6 ⟨rfl, h6⟩; have h6' := Lib.hid h6; clear h6)
        have h7 := h6'.out (w6.alloc (.cells #[.int .i64 a.k.t, .int .i64 a.k.f, .int .i64 a.k.s, .int .i64 a.to, .int .i64 a.v, .int .i64 a.u, .bool a.anti] 34)) ((Below.refl _ _).alloc (Nat.le_refl _) _)
        have hx9 : MsgAt (w6.alloc (.cells #[.int .i64 a.k.t, .int .i64 a.k.f, .int .i64 a.k.s, .int .i64 a.to, .int .i64 a.v, .int .i64 a.u, .bool a.anti] 34)) w6.heap.size 0 a := (BoxM.mk w6 a).at
        clear h6'
        generalize w6.alloc (.cells #[.int .i64 a.k.t, .int .i64 a.k.f, .int .i64 a.k.s, .int .i64 a.to, .int .i64 a.v, .int .i64 a.u, .bool a.anti] 34) = W7 at h7 hx9 ⊢
        obtain ⟨h7a, h7c, h7p⟩ := h7
        have h7p' := Lib.hid h7p
        clear h7p
        obtain ⟨-, x0, x1, x2, x3, x4, x5, x6⟩ := hx9
        obtain ⟨-, u0, u1, u2, u3, u4, u5, u6⟩ := h7a
        obtain ⟨-, z0, z1, z2, z3, z4, z5, z6⟩ := h7c
        simp only [Nat.zero_add] at x0 x1 x2 x3 x4 x5 x6 u0 u1 u2 u3 u4 u5 u6 z0 z1 z2 z3 z4 z5 z6
        go_wp2_with (first
          | (go_at_call 15; (with_reducible refine h7p'.out.mono ?_); rintro e w8 ⟨rfl, h8⟩; have h8b := h8 w8 (Below.refl _ _); clear h8; obtain ⟨h8a, h8p⟩ := h8b; obtain ⟨-, v0, v1, v2, v3, v4, v5, v6⟩ := h8a; simp only [Nat.zero_add] at v0 v1 v2 v3 v4 v5 v6)
          | (go_at_call 15; (with_reducible refine h8p.mono ?_); rintro e w9 ⟨rfl, hb9⟩; have hb9' := Lib.hid hb9; clear hb9))
        go_ret
        refine ⟨rfl, hb9'.out⟩
set_option maxHeartbeats 1000000 in
theorem lawLadderTwice (Wd : Int) (hWf : (Lit.int .i64 Wd).wf = true) (a : M) (ha : a.fits) (b : M) (hb : b.fits) {w : World} {sa : Option Addr} {len cap : Nat} {ms : List M} (h : Msgs w sa len cap ms) (hr : len * 56 ≤ 140737488351232) :
    Calls Try.prog 7 #[.int .i64 Wd, a.val, b.val, .slice sa len cap] w fun e w' => e = .returned (.bool true) ∧ Below w.heap.size w w' := by
  by_cases hWd : 1 ≤ Wd ∧ Wd ≤ 16384
  · exact lawLadderTwice_wide Wd hWf hWd a ha b hb h hr
  · rcases (by omega : Wd < 1 ∨ 16384 < Wd) with hW1 | hW1
    · have hWx := hW1
      have hW : Hid (Below w.heap.size w ((w.alloc (.cells a.cells 34)).alloc (.cells b.cells 34))) := ((Below.refl _ w).alloc (Nat.le_refl _) _).alloc (by simp) _
      have hnew := fun w => hNew_no w (W := Wd) (by omega)
      clear h hWd hWf ha hb hr
      simp only [M.val, M.cells] at hW ⊢
      go_enter Try.func7, Try.ntmps7
      go_upto_region 1 with (fail)
      generalize (w.alloc (.cells #[.int .i64 a.k.t, .int .i64 a.k.f, .int .i64 a.k.s, .int .i64 a.to, .int .i64 a.v, .int .i64 a.u, .bool a.anti] 34)).alloc (.cells #[.int .i64 b.k.t, .int .i64 b.k.f, .int .i64 b.k.s, .int .i64 b.to, .int .i64 b.v, .int .i64 b.u, .bool b.anti] 34) = W0 at hW ⊢
      have haw := awake8_any W0
      go_wp2_with (first
        | (go_at_call 8; refine (hnew _).mono ?_; rintro e w1 ⟨rfl, rfl⟩)
        | (go_at_call 14; refine haw.mono ?_; rintro e w2 ⟨rfl, hb2⟩; have hb2' := Lib.hid hb2; clear hb2))
      go_ret
      exact ⟨rfl, hW.out.trans (hb2'.out.mono hW.out.size)⟩
    · have hWx : ¬ Wd < 1 := by omega
      have hW : Hid (Below w.heap.size w ((w.alloc (.cells a.cells 34)).alloc (.cells b.cells 34))) := ((Below.refl _ w).alloc (Nat.le_refl _) _).alloc (by simp) _
      have hnew := fun w => hNew_no w (W := Wd) (by omega)
      clear h hWd hWf ha hb hr
      simp only [M.val, M.cells] at hW ⊢
      go_enter Try.func7, Try.ntmps7
      go_upto_region 1 with (fail)
      generalize (w.alloc (.cells #[.int .i64 a.k.t, .int .i64 a.k.f, .int .i64 a.k.s, .int .i64 a.to, .int .i64 a.v, .int .i64 a.u, .bool a.anti] 34)).alloc (.cells #[.int .i64 b.k.t, .int .i64 b.k.f, .int .i64 b.k.s, .int .i64 b.to, .int .i64 b.v, .int .i64 b.u, .bool b.anti] 34) = W0 at hW ⊢
      have haw := awake8_any W0
      go_wp2_with (first
        | (go_at_call 8; refine (hnew _).mono ?_; rintro e w1 ⟨rfl, rfl⟩)
        | (go_at_call 14; refine haw.mono ?_; rintro e w2 ⟨rfl, hb2⟩; have hb2' := Lib.hid hb2; clear hb2))
      go_ret
      exact ⟨rfl, hW.out.trans (hb2'.out.mono hW.out.size)⟩
end Go.Proofs.Ytcfpfbemmklbaaa
namespace Go.Proofs.Ytcfpfbemmklbaaa
open Go.ChangeShapes Go.WideShapes Go.ChangeAt Go.Shelf Go.RowKit Go.Lib Go.Sort Go.Deep Go.Maps
set_option linter.unusedVariables false

theorem zeroM_val : zeroM.val = .agg #[.int .i64 0, .int .i64 0, .int .i64 0, .int .i64 0, .int .i64 0, .int .i64 0, .bool false] := rfl

theorem own_kept {S : Nat → Prop} {w w' : World} {base : Nat} {e : TypeId} {size : Nat} {v : Value} {n : Nat} {xs : List Value} (h : w.ownsRow base e size v n xs) (hk : KeptOff S w w') (hn : ∀ k, v.ownBlock = some k → ¬ S k) : w'.ownsRow base e size v n xs := by
  refine ⟨h.1, ?_⟩
  rcases h.2 with h0 | ⟨g, cap, cur, rfl, hb, hgg, rest⟩
  · exact .inl h0
  · exact .inr ⟨g, cap, cur, rfl, hb, (hk.block g (Array.getElem?_eq_some_iff.1 hgg).1 (hn g rfl)).trans hgg, rest⟩
theorem Calls.still_of {P : Program} {f : FuncId} {args : Array Value} {w : World} {v : Value}
    (h : Calls P f args w fun e w' => e = .returned v ∧ w = w') : Calls P f args w fun e w' => e = .returned v ∧ ∃ q os', w' = grow (w.drewN q) os' :=
  h.mono fun _ _ ⟨he, hw⟩ => ⟨he, 0, #[], by rw [← hw, grow_empty]; rfl⟩

theorem Msgs.kept {S : Nat → Prop} {w w' : World} {a : Option Addr} {len cap : Nat} {ms : List M} (h : Msgs w a len cap ms) (hk : KeptOff S w w') (hn : len = 0 ∨ ∃ b off, a = some ⟨b, off, none⟩ ∧ ¬ S b) : Msgs w' a len cap ms := by
  obtain ⟨h1, h2, h3, hf, h4⟩ := h
  refine ⟨h1, h2, h3, hf, ?_⟩
  rcases h4 with h0 | ⟨b, off, rfl, hm⟩
  · exact .inl h0
  · rcases hn with h0 | ⟨b', off', e, hb⟩
    · exact .inl h0
    · cases e
      refine .inr ⟨b, off, rfl, fun i hi => ?_⟩
      obtain ⟨hlt, c0, c1, c2, c3, c4, c5, c6⟩ := hm i hi
      have hc : ∀ {c : Nat} {v : Value}, w.cell? ⟨b, c, none⟩ = some v → w'.cell? ⟨b, c, none⟩ = some v := fun h => (World.cell?_of_block (hk.block b hlt hb)).trans h
      exact ⟨Nat.lt_of_lt_of_le hlt hk.size, hc c0, hc c1, hc c2, hc c3, hc c4, hc c5, hc c6⟩

/-- The k-th message with a number of its own. -/
def nthU (ms : List M) (k : Nat) : M := { ms.getD k default with u := (k : Int) }
def inU (ms : List M) (k : Nat) : List M := (List.range k).map (nthU ms)
theorem inU_succ (ms : List M) (k : Nat) : inU ms (k + 1) = inU ms k ++ [nthU ms k] := by simp [inU, List.range_succ]
theorem inU_length (ms : List M) (k : Nat) : (inU ms k).length = k := by simp [inU]
theorem inU_mem {ms : List M} {k : Nat} {m : M} (h : m ∈ inU ms k) : ∃ i, i < k ∧ m = nthU ms i := by
  simp only [inU, List.mem_map, List.mem_range] at h
  obtain ⟨i, hi, rfl⟩ := h
  exact ⟨i, hi, rfl⟩
theorem inU_new (ms : List M) (k : Nat) (f : Int) : hasS (stab ltM (inU ms k)) f (k : Int) = false := by
  rw [hasS_perm (stab_perm _)]
  cases h : hasS (inU ms k) f (k : Int) with
  | false => rfl
  | true =>
    obtain ⟨m, hm, _, hu⟩ := hasS_iff.1 h
    obtain ⟨i, hi, rfl⟩ := inU_mem hm
    simp [nthU] at hu
    omega
theorem nthU_fits {ms : List M} (hf : ∀ m ∈ ms, m.fits) (k : Nat) (hk : k < ms.length) (h5 : k < 500) : (nthU ms k).fits := by
  have hm : (ms.getD k default).fits := hf _ (by rw [List.getD_eq_getElem?_getD, List.getElem?_eq_getElem hk]; exact List.getElem_mem hk)
  refine ⟨hm.1, hm.2.1, hm.2.2.1, ?_⟩
  show (Lit.int .i64 (k : Int)).wf = true
  exact WalkArith.wf_i64 (by omega)
theorem inU_fits {ms : List M} (hf : ∀ m ∈ ms, m.fits) (k : Nat) (hk : k ≤ ms.length) (h5 : k ≤ 500) : ∀ m ∈ inU ms k, m.fits := by
  intro m hm
  obtain ⟨i, hi, rfl⟩ := inU_mem hm
  exact nthU_fits hf i (by omega) (by omega)
/-- What stands behind k rounds of the filling loop. -/
def Filled (w wr : World) (ms : List M) (k : Nat) (inv : Value) : Prop :=
  ∃ S, CalAt wr (w.heap.size + 2) S (stab ltM (inU ms k)) ∧ wr.ownsRow w.heap.size 34 7 inv k (flat (inU ms k)) ∧ (∀ g, inv.ownBlock = some g → ¬ S g) ∧ (∀ x, S x → w.heap.size ≤ x) ∧ Below w.heap.size w wr
/-- One more is appended and pushed. -/
theorem filled_step {w wr : World} {ms : List M} {k : Nat} {inv : Value} (h : Filled w wr ms k inv) (hf : (nthU ms k).fits) (hk : k < 500) :
    ∀ w3 inv', KeptOff (fun x => inv.ownBlock = some x) wr w3 → w3.ownsRow w.heap.size 34 7 inv' (k + 1) (flat (inU ms k) ++ flat [nthU ms k]) → (inv'.ownBlock = inv.ownBlock ∨ ∃ g, inv'.ownBlock = some g ∧ wr.heap.size ≤ g) →
      Calls Try.prog 15 #[.pointer (some ⟨w.heap.size + 2, 0, none⟩), (nthU ms k).val] w3 fun e w' => e = .returned (.int .i64 0) ∧ Filled w w' ms (k + 1) inv' := by
  obtain ⟨S, hQ, hI, hd, hS, hB⟩ := h
  intro w3 inv' hk3 ho hl
  have hrl := hI.lt
  have hQ3 := hQ.kept hk3 (fun x hx e => hd x e hx)
  have hnew := inU_new ms k (nthU ms k).k.f
  have hB3 : Below w.heap.size w w3 := hB.trans (hk3.below (fun x _ e => (hrl x e).1) hB.size)
  refine (hPush_takes hQ3 (nthU ms k) hf hnew (by rw [stab_length, inU_length]; omega)).mono ?_
  rintro e w' ⟨he, S', hQ', hst⟩
  have hne : ∀ g, inv'.ownBlock = some g → ¬ S g := by
    intro g hg hs
    rcases hl with e2 | ⟨g2, e2, hg2⟩
    · exact hd g (e2 ▸ hg) hs
    · have := hQ.lt hs
      rw [hg] at e2
      cases e2
      omega
  have hsb := hst.belowB hS hB3.size
  refine ⟨he, S', ?_, ?_, ?_, hsb.2, hB3.trans hsb.1⟩
  · rw [inU_succ, stab_snoc]
    exact hQ'
  · rw [inU_succ, flat_append]
    exact own_kept ho hst.1 (fun x hx e => hne x hx e)
  · intro g hg e
    rcases hst.2 g e with e2 | e2
    · exact hne g hg e2
    · have := (ho.lt g hg).2
      omega
theorem Msgs.lt_of {w : World} {a : Option Addr} {len cap : Nat} {T : List M} (h : Msgs w a len cap T) (b : Nat) (e : a = some ⟨b, 0, none⟩) (h0 : 0 < len) : b < w.heap.size := by
  rcases h.2.2.2.2 with h1 | ⟨b', off', e', hm⟩
  · omega
  · rw [e] at e'
    cases e'
    exact (hm 0 h0).1
/-- What stands behind k rounds of the emptying loop. -/
def Emptied (w wr : World) (T : List M) (k : Nat) (a : Option Addr) (len cap : Nat) : Prop :=
  ∃ S, CalAt wr (w.heap.size + 2) S (T.drop k) ∧ Msgs wr a len cap T ∧ (len = 0 ∨ ∃ b, a = some ⟨b, 0, none⟩ ∧ ¬ S b) ∧ (∀ x, S x → w.heap.size ≤ x) ∧ Below w.heap.size w wr
theorem emptied_step {w wr : World} {T : List M} {k : Nat} {a : Option Addr} {len cap : Nat} (h : Emptied w wr T k a len cap) (hk : k < T.length) :
    Calls Try.prog 17 #[.pointer (some ⟨w.heap.size + 2, 0, none⟩)] wr fun e w' => e = .returned (.tuple #[(T.getD k default).val, .int .i64 0]) ∧ Emptied w w' T (k + 1) a len cap := by
  obtain ⟨S, hQ, hM, ha, hS, hB⟩ := h
  have e1 : T.drop k = T.getD k default :: T.drop (k + 1) := by
    rw [List.drop_eq_getElem_cons hk]
    simp [List.getD_eq_getElem?_getD, hk]
  rw [e1] at hQ
  refine (hPop_some hQ).mono ?_
  rintro e w' ⟨he, S', hQ', hst⟩
  have hsb := hst.belowB hS hB.size
  exact ⟨he, S', hQ', hM.kept hst.1 (ha.imp id (fun ⟨b, e, h⟩ => ⟨b, 0, e, h⟩)), ha.elim .inl (fun ⟨b, e, h⟩ => (Nat.eq_zero_or_pos len).imp id (fun h0 => ⟨b, e, fun hs => (hst.2 b hs).elim h (fun e2 => by have := hM.lt_of b e h0; omega)⟩)), hsb.2, hB.trans hsb.1⟩

/-- How many are put in. -/
theorem min_len (n : Nat) : min (n : Int) 500 = ((min n 500 : Nat) : Int) := by omega

set_option maxHeartbeats 4000000 in
set_option maxRecDepth 100000 in
theorem lawLadderOrder_wide (Wd : Int) (hWf : (Lit.int .i64 Wd).wf = true) (hWd : 1 ≤ Wd ∧ Wd ≤ 16384) {w : World} {a : Option Addr} {len cap : Nat} {ms : List M} (h : Msgs w a len cap ms) (hr : len * 56 ≤ 140737488351232) :
    Calls Try.prog 4 #[.int .i64 Wd, .slice a len cap] w fun e w' => e = .returned (.bool true) ∧ Below w.heap.size w w' := by
  obtain ⟨i0, hi, hz0, hz1, hz2⟩ := info_parts infoM
  have mixed := mixed
  have hnew := hNew_any w hWd hWf
  have hlen := Lib.hid h.1
  have hfit := Lib.hid h.2.2.2.1
  have hmx : len ≤ 9223372036854775807 := by have h1 := h.2.1; have h2 := h.2.2.1; unfold maxLen at h2; omega
  obtain ⟨nn, hnn⟩ : ∃ nn, nn = min len 500 := ⟨_, rfl⟩
  have hm : min (len : Int) 500 = (nn : Int) := by rw [hnn]; omega
  have hnn' : nn ≤ len ∧ nn ≤ 500 := by omega
  obtain ⟨hn1, hn2⟩ := hnn'
  have h' := Lib.hid h
  clear h hnn
  go_enter Try.func4, Try.ntmps4
  go_wp2_with (go_at_call 8; refine hnew.mono ?_; rintro e w1 ⟨rfl, hQ1'⟩)
  have hF0 : Hid (Filled w w1 ms 0 (.slice none 0 0)) := ⟨newS w, hQ1'.out.1, World.ownsRow_nil _ _ _ _, (fun g hg => by cases hg), (fun x e => e.1), hQ1'.out.2⟩
  go_loopw [9, 8] (fun s6 s5 wr => ∃ (k : Nat) (ia : Option Addr) (ic : Nat), k ≤ nn ∧ s6 = .int .i64 k ∧ s5 = .slice ia k ic ∧ Hid (Filled w wr ms k (.slice ia k ic))) (fun s6 _ _ => nn - (intOf s6).toNat)
  case atStart => exact ⟨0, none, 0, Nat.zero_le _, rfl, rfl, hF0⟩
  case round =>
    obtain ⟨k, ia, ic, hk, rfl, rfl, hF⟩ := hrel
    clear hF0
    by_cases hkn : k < nn
    · have hz : (k : Int) < (nn : Int) := by omega
      obtain ⟨b, off, rfl, hma⟩ : ∃ b off, a = some ⟨b, off, none⟩ ∧ ∀ i, i < len → MsgAt w b (off + i * 7) (ms.getD i default) := by
        rcases h'.out.2.2.2.2 with h0 | hx
        · omega
        · exact hx
      have hmk := (hma k (by omega)).below hF.out.choose_spec.2.2.2.2
      have hkl : k < len := by omega
      have hnk : Hid (nthU ms k = { ms.getD k default with u := (k : Int) }) := rfl
      generalize ms.getD k default = m at hmk hnk
      obtain ⟨⟨t, f, s⟩, tt, vv, u, an⟩ := m
      obtain ⟨-, x0, x1, x2, x3, x4, x5, x6⟩ := hmk
      simp only at x0 x1 x2 x3 x4 x5 x6 hnk
      clear hma
      go_upto_region 11 with (fail)
      have hbx := BoxM.mk wr ⟨⟨t, f, s⟩, tt, vv, (k : Int), an⟩
      have hk2 : KeptOff (fun _ => False) wr (wr.alloc (.cells #[.int .i64 t, .int .i64 f, .int .i64 s, .int .i64 tt, .int .i64 vv, .int .i64 (k : Int), .bool an] 34)) := .of_below ((Below.refl _ wr).alloc (Nat.le_refl _) _)
      have hF1 := hF.out
      obtain ⟨S, hQ, hI, hd, hS, hB⟩ := hF1
      have hI2 := own_kept hI hk2 (fun _ _ e => e)
      have hbx : BoxM (wr.alloc (.cells #[.int .i64 t, .int .i64 f, .int .i64 s, .int .i64 tt, .int .i64 vv, .int .i64 (k : Int), .bool an] 34)) wr.heap.size ⟨⟨t, f, s⟩, tt, vv, (k : Int), an⟩ := hbx
      have hbase := hB.size
      have hbd3 := hQ.lt hQ.own
      have hrl := hI.lt
      generalize hBx : wr.heap.size = Bx at hbx hk2 hbase hbd3 hrl ⊢
      have hBx' := Lib.hid hBx
      generalize wr.alloc (.cells #[.int .i64 t, .int .i64 f, .int .i64 s, .int .i64 tt, .int .i64 vv, .int .i64 (k : Int), .bool an] 34) = W2 at *
      have hW2 := hbx.lt
      obtain ⟨-, y0, y1, y2, y3, y4, y5, y6⟩ := hbx.at
      simp only [Nat.zero_add] at y0 y1 y2 y3 y4 y5 y6
      have hI2' := Lib.hid hI2
      have hQ2 := Lib.hid (And.intro hbx (And.intro hk2 hrl))
      have hnf := Lib.hid (nthU_fits hfit.out k (by rw [hlen.out]; omega) (by omega))
      clear hI2 hbx hk2 hQ hI hd hB hrl x0 x1 x2 x3 x4 x5 x6 hBx hS
      go_upto_region 12 with ((at_builtin; refine wpList_append_lies _ rfl (.tmp 47) (.tmp 49) 38 rfl w.heap.size 34 i0 _ 7 56 Try.underlying38 hi hz0 hz1 hz2 rfl (by omega) (.slice ia k ic) k (flat (inU ms k)) rfl (hI2'.out.alloc _) ⟨W2.heap.size, 0, none⟩ 1 1 (flat [⟨⟨t, f, s⟩, tt, vv, (k : Int), an⟩]) rfl rfl (World.news_of_block (cs := (M.cells ⟨⟨t, f, s⟩, tt, vv, (k : Int), an⟩)) (t := 34) (fr := (0, 0)) (heap_alloc_new W2 _)) (flat_one _) (by omega) (by unfold maxLen; omega) (by omega) (by simp; omega) _ rfl ?_; intro gg ic' w4 hown4 hgrow hat hlt4; have hQ4 := Lib.hid (And.intro hown4 (And.intro hgrow (And.intro hat hlt4))); clear hown4 hgrow hat hlt4))
      obtain ⟨hown4, hgrow, hat, hlt4⟩ := hQ4.out
      obtain ⟨hbx, hk2, hrl⟩ := hQ2.out
      have hk4 : KeptOff (fun x => (Value.slice ia k ic).ownBlock = some x) wr w4 := ((hk2.mono (fun _ _ e => e.elim)).trans (KeptOff.of_below ((Below.refl _ W2).alloc (Nat.le_refl _) _))).trans (KeptOff.of_grown hgrow)
      have hbx4 : BoxM w4 Bx ⟨⟨t, f, s⟩, tt, vv, (k : Int), an⟩ := (hbx.kept (S := fun _ => False) (.of_below ((Below.refl _ W2).alloc (Nat.le_refl _) _)) (fun e => e)).kept (KeptOff.of_grown hgrow) (fun e => by have := (hrl _ e).2; omega)
      have hps := filled_step hF.out hnf.out (by omega) w4 (.slice (some ⟨gg, 0, none⟩) (k + 1) ic') hk4 (by rw [hnk.out]; exact hown4) (by
        rcases hat with e | e
        · exact .inl e.symm
        · refine .inr ⟨gg, rfl, ?_⟩
          have := hBx'.out
          simp at e
          omega)
      rw [hnk.out] at hps
      simp only [M.val] at hps
      obtain ⟨-, z0, z1, z2, z3, z4, z5, z6⟩ := hbx4.at
      simp only [Nat.zero_add] at z0 z1 z2 z3 z4 z5 z6
      have hps' := Lib.hid hps
      clear hown4 hgrow hat hlt4 hbx hk2 hrl hk4 hbx4 hps hQ4 hQ2 hI2' y0 y1 y2 y3 y4 y5 y6 hnf hF
      go_wp2_with (go_at_call 15; refine hps'.out.mono ?_; rintro e w5 ⟨rfl, hF5⟩; have hF5' := Lib.hid hF5; clear hF5)
      go_roundw
      case rel => exact ⟨k + 1, some ⟨gg, 0, none⟩, ic', by omega, by go_num, rfl, hF5'⟩
      case measure => simp [intOf]; omega
    · obtain rfl : k = nn := by omega
      have hz : ¬ (k : Int) < (k : Int) := by omega
      obtain ⟨S, hQ, hI, hd, hS, hB⟩ := hF.out
      obtain ⟨ia', ic', he, hM⟩ := msgs_of_own hI (inU_fits hfit.out k (by rw [hlen.out]; omega) (by omega))
      cases he
      have hso := eSorted_new hM (by omega)
      have hv0 : ∀ g, S g → g < wr.heap.size := fun g hg => hQ.lt hg
      obtain ⟨T, hT⟩ : ∃ T, T = stab ltM (inU ms k) := ⟨_, rfl⟩
      have hTl : Hid (T.length = k) := by show _ = _; rw [hT, stab_length, inU_length]
      have hTf : Hid (∀ m ∈ T, m.fits) := fun m hm' => hQ.fits m (hT ▸ hm')
      rw [← hT] at hQ hso
      have hso' : Hid (Calls Try.prog 16 #[.slice ia k ic] wr fun e w' => ∃ a' cap', e = .returned (.slice a' k cap') ∧ Aside (Emptied w w' T 0 a' k cap')) := by
        refine hso.mono ?_
        rintro e w' ⟨a', cap', he, hq⟩
        obtain ⟨⟨h1, h2⟩, h3⟩ := hq.out
        refine ⟨a', cap', he, S, ?_, h1, ?_, hS, hB.trans (h2.mono hB.size)⟩
        · exact hQ.below h2
        · rcases h3 with h0 | ⟨b, hb, hb2⟩
          · exact .inl h0
          · exact .inr ⟨b, hb, fun e => by have := hv0 b e; omega⟩
      clear hQ hI hd hB hM hso hv0 hT hF hS hk
      have hk5 : k ≤ 500 := hn2
      go_wp2_with (go_at_call 16; refine hso'.out.mono ?_; rintro e w2 ⟨a', cap', rfl, hE⟩)
      go_loopw [12] (fun s9 wr => ∃ j : Nat, j ≤ k ∧ s9 = .int .i64 j ∧ Aside (Emptied w wr T j a' k cap')) (fun s9 _ => k - (intOf s9).toNat)
      case atStart => exact ⟨0, Nat.zero_le _, rfl, hE⟩
      case round =>
        clear hE
        obtain ⟨j, hj, rfl, hE⟩ := hrel
        by_cases hjk : j < k
        · have hz : (j : Int) < (k : Int) := by omega
          have hps := emptied_step hE.out (by rw [hTl.out]; exact hjk)
          have hdl : Hid ((T.drop (j + 1)).length = k - (j + 1)) := by show _ = _; rw [List.length_drop, hTl.out]
          have hjT : Hid (j < T.length) := by show _ < _; rw [hTl.out]; exact hjk
          obtain ⟨m, hm'⟩ : ∃ m, m = T.getD j default := ⟨_, rfl⟩
          rw [← hm'] at hps
          have hmT := Lib.hid hm'
          clear hm' hE
          have hneq := fun w => neqM m m w
          simp only [decide_true, Bool.not_true] at hneq
          obtain ⟨⟨t, f, s⟩, tt, vv, u, an⟩ := m
          simp only [M.val] at hneq hps
          have hps' := Lib.hid hps
          clear hps
          go_upto_region 19 with (go_at_call 17; refine hps'.out.mono ?_; rintro e w5 ⟨rfl, hE5⟩; have hE5' := Lib.hid hE5; clear hE5)
          have hbx := BoxM.mk w5 ⟨⟨t, f, s⟩, tt, vv, u, an⟩
          have hE6 : Hid (Emptied w (w5.alloc (.cells #[.int .i64 t, .int .i64 f, .int .i64 s, .int .i64 tt, .int .i64 vv, .int .i64 u, .bool an] 34)) T (j + 1) a' k cap') := by
            obtain ⟨v, q1, q2, q3, q4, q5⟩ := hE5'.out
            have hb6 : Below w5.heap.size w5 (w5.alloc (.cells #[.int .i64 t, .int .i64 f, .int .i64 s, .int .i64 tt, .int .i64 vv, .int .i64 u, .bool an] 34)) := (Below.refl _ w5).alloc (Nat.le_refl _) _
            exact ⟨v, q1.below hb6, q2.below hb6, q3, q4, q5.trans (hb6.mono q5.size)⟩
          generalize hBx : w5.heap.size = Bx at *
          have hbx : BoxM (w5.alloc (.cells #[.int .i64 t, .int .i64 f, .int .i64 s, .int .i64 tt, .int .i64 vv, .int .i64 u, .bool an] 34)) Bx ⟨⟨t, f, s⟩, tt, vv, u, an⟩ := hbx
          generalize w5.alloc (.cells #[.int .i64 t, .int .i64 f, .int .i64 s, .int .i64 tt, .int .i64 vv, .int .i64 u, .bool an] 34) = W6 at *
          obtain ⟨b2, o2, ha2, hat⟩ : ∃ b2 o2, a' = some ⟨b2, o2, none⟩ ∧ MsgAt W6 b2 (o2 + j * 7) ⟨⟨t, f, s⟩, tt, vv, u, an⟩ := by
            obtain ⟨v, q1, q2, q3, q4, q5⟩ := hE6.out
            rcases q2.2.2.2.2 with h0 | ⟨b2, o2, e2, hm2⟩
            · omega
            · exact ⟨b2, o2, e2, by rw [hmT.out]; exact hm2 j (by omega)⟩
          have hcapk : k ≤ cap' ∧ cap' ≤ 9223372036854775807 := by
            obtain ⟨v, q1, q2, q3, q4, q5⟩ := hE6.out
            exact ⟨q2.2.1, by have := q2.2.2.1; unfold maxLen at this; omega⟩
          obtain ⟨hcapk1, hcapk2⟩ := hcapk
          have hln : ∀ n os, Calls Try.prog 11 #[.pointer (some ⟨w.heap.size + 2, 0, none⟩)] (grow (W6.drewN n) os) fun e w' => e = .returned (.int .i64 ((k : Int) - (j : Int) - 1)) ∧ ∃ q os', w' = grow ((grow (W6.drewN n) os).drewN q) os' := by
            intro n os
            obtain ⟨v, q1, q2, q3, q4, q5⟩ := hE6.out
            have := Calls.still_of (hLen_any (q1.below (w' := grow (W6.drewN n) os) (Read.below ⟨n, os, rfl⟩)))
            rw [hdl.out, show ((k - (j + 1) : Nat) : Int) = (k : Int) - (j : Int) - 1 by omega] at this
            exact this
          subst ha2
          have hxa := fun n os => hbx.at.read ⟨n, os, rfl⟩
          have hya := fun n os => hat.read ⟨n, os, rfl⟩
          simp only [MsgAt, forall_and, Nat.zero_add] at hxa hya
          obtain ⟨-, x0, x1, x2, x3, x4, x5, x6⟩ := hxa
          obtain ⟨-, y0, y1, y2, y3, y4, y5, y6⟩ := hya
          have a1 : IntKind.i64.wrap ((k : Int) - (j : Int)) = (k : Int) - (j : Int) := IntWalk.i64_in _ (by omega)
          have a2 : IntKind.i64.wrap ((k : Int) - (j : Int) - 1) = (k : Int) - (j : Int) - 1 := IntWalk.i64_in _ (by omega)
          have hz2 : (j : Int) < (k : Int) := hz
          clear hbx hat hps' hE5' hBx
          refine wp_region_quiet_grown (by assumption) (by kernel_rfl) ?_
          repeat (first | go_big_quiet_step ((go_at_call 11; exact Calls.grown_of (hln _ _))) | quiet_step ((go_at_call 11; exact Calls.grown_of (hln _ _))))
          refine wpQuiet_nil ?_
          intro _ hw'
          obtain ⟨⟨nq, osq⟩, hw''⟩ := hw'
          subst hw''
          have hE7 : Aside (Emptied w (grow (W6.drewN nq) osq) T (j + 1) (some ⟨b2, o2, none⟩) k cap') := by
            obtain ⟨v, q1, q2, q3, q4, q5⟩ := hE6.out
            have hb7 : Below W6.heap.size W6 (grow (W6.drewN nq) osq) := Read.below ⟨nq, osq, rfl⟩
            exact ⟨v, q1.below hb7, q2.below hb7, q3, q4, q5.trans (hb7.mono q5.size)⟩
          clear x0 x1 x2 x3 x4 x5 x6 y0 y1 y2 y3 y4 y5 y6 hln hE6 a1 a2
          generalize grow (W6.drewN nq) osq = W7 at hE7 ⊢
          go_wp2
          go_roundw
          case rel => exact ⟨j + 1, by omega, by go_num, hE7⟩
          case measure => simp [intOf]; omega
        · obtain rfl : j = k := by omega
          have hz : ¬ (j : Int) < (j : Int) := by omega
          have hpo : Hid (Calls Try.prog 17 #[.pointer (some ⟨w.heap.size + 2, 0, none⟩)] wr fun e w' => e = .returned (.tuple #[zeroM.val, .int .i64 6]) ∧ Below w.heap.size w w') := by
            obtain ⟨v, hQ, _, _, _, hB⟩ := hE.out
            rw [List.drop_of_length_le (by rw [hTl.out]; exact Nat.le_refl _)] at hQ
            exact (hPop_none hQ).mono fun e w' h => ⟨h.1, hB.trans (h.2.mono hB.size)⟩
          rw [zeroM_val] at hpo
          clear hE
          go_wp2_with (go_at_call 17; refine hpo.out.mono ?_; rintro e w5 ⟨rfl, hb5⟩; have hb5' := Lib.hid hb5; clear hb5)
          go_ret
          refine ⟨rfl, ?_⟩
          refine Below.alloc hb5'.out hb5'.out.size _
set_option maxHeartbeats 1000000 in
theorem lawLadderOrder (Wd : Int) (hWf : (Lit.int .i64 Wd).wf = true) {w : World} {a : Option Addr} {len cap : Nat} {ms : List M} (h : Msgs w a len cap ms) (hr : len * 56 ≤ 140737488351232) :
    Calls Try.prog 4 #[.int .i64 Wd, .slice a len cap] w fun e w' => e = .returned (.bool true) ∧ Below w.heap.size w w' := by
  by_cases hWd : 1 ≤ Wd ∧ Wd ≤ 16384
  · exact lawLadderOrder_wide Wd hWf hWd h hr
  · rcases (by omega : Wd < 1 ∨ 16384 < Wd) with hW1 | hW1
    · have hWx := hW1
      have hnew := hNew_no w (W := Wd) (by omega)
      have haw := awake8_any w
      clear h hWd hWf hr
      go_enter Try.func4, Try.ntmps4
      go_wp2_with (first
        | (go_at_call 8; refine hnew.mono ?_; rintro e w1 ⟨rfl, rfl⟩))
      go_ret
      exact ⟨rfl, Below.refl _ _⟩
    · have hWx : ¬ Wd < 1 := by omega
      have hnew := hNew_no w (W := Wd) (by omega)
      have haw := awake8_any w
      clear h hWd hWf hr
      go_enter Try.func4, Try.ntmps4
      go_wp2_with (first
        | (go_at_call 8; refine hnew.mono ?_; rintro e w1 ⟨rfl, rfl⟩)
        | (go_at_call 14; refine haw.mono ?_; rintro e w2 ⟨rfl, hb2⟩; have hb2' := Lib.hid hb2; clear hb2))
      go_ret
      exact ⟨rfl, hb2'.out⟩
end Go.Proofs.Ytcfpfbemmklbaaa
namespace Go.Proofs.Ytcfpfbemmklbaaa
open Go.ChangeShapes Go.WideShapes Go.ChangeAt Go.Shelf Go.RowKit Go.Lib Go.Sort Go.Deep Go.Maps
set_option linter.unusedVariables false

/-- Two ladders, the first of A, the second of P; beside both a box that holds o. -/
def Duo (w wr : World) (Bp Bo n : Nat) (A P : List M) (o : M) : Prop :=
  ∃ S S2, CalAt wr (w.heap.size + 2) S A ∧ CalAt wr (Bp + 2) S2 P ∧ (∀ g, S g → ¬ S2 g) ∧ ¬ S Bo ∧ ¬ S2 Bo ∧ BoxM wr Bo o ∧ Below w.heap.size w wr ∧ (∀ g, S g → w.heap.size ≤ g) ∧ (∀ g, S2 g → w.heap.size ≤ g) ∧ w.heap.size ≤ Bo
section
variable {w wr w' w2 : World} {Bp Bo n n' Bm : Nat} {A P : List M} {o o' m a : M}
theorem Duo.bx (h : Duo w wr Bp Bo n A P o) : BoxM wr Bo o := by
  obtain ⟨S, S2, h1, h2, h3, h4, h5, h6, h7⟩ := h
  exact h6
theorem Duo.b (h : Duo w wr Bp Bo n A P o) : Below w.heap.size w wr := by
  obtain ⟨S, S2, h1, h2, h3, h4, h5, h6, h7, h8⟩ := h
  exact h7
theorem Duo.below (h : Duo w wr Bp Bo n A P o) (hb : Below wr.heap.size wr w') : Duo w w' Bp Bo n A P o := by
  obtain ⟨S, S2, h1, h2, h3, h4, h5, h6, h7, h8⟩ := h
  exact ⟨S, S2, h1.below hb, h2.below hb, h3, h4, h5, h6.below hb, h7.trans (hb.mono h7.size), h8⟩
theorem Duo.mono (h : Duo w wr Bp Bo n A P o) (hn : n ≤ n') : Duo w wr Bp Bo n' A P o := h
/-- The box rewritten. -/
theorem Duo.box (h : Duo w wr Bp Bo n A P o) (hk : KeptOff (fun k => k = Bo) wr w') (hb : BoxM w' Bo o') : Duo w w' Bp Bo n A P o' := by
  obtain ⟨S, S2, h1, h2, h3, h4, h5, h6, h7, h8, h9, h10⟩ := h
  exact ⟨S, S2, h1.kept hk (fun k e hh => h4 (hh ▸ e)), h2.kept hk (fun k e hh => h5 (hh ▸ e)), h3, h4, h5, hb, h7.trans (hk.below (fun k _ e => by omega) h7.size), h8, h9, h10⟩
/-- A push into the first. -/
theorem Duo.pushQ (h : Duo w wr Bp Bo n A P o) (hb : Below wr.heap.size wr w2) (hm : BoxM w2 Bm m) (hB : wr.heap.size ≤ Bm) (hf : m.fits) (hn : hasS A m.k.f m.u = false) (hl : A.length < 16384) :
    Calls Try.prog 15 #[.pointer (some ⟨w.heap.size + 2, 0, none⟩), m.val] w2 fun e w' => e = .returned (.int .i64 0) ∧ Hid (BoxM w' Bm m ∧ Duo w w' Bp Bo (n + 1) (mg ltM A [m]) P o) := by
  obtain ⟨S, S2, h1, h2, h3, h4, h5, h6, h7, h8, h9, h10⟩ := h
  have hs2 := hb.size
  have hbo := h6.lt
  refine (hPush_takes (h1.below hb) m hf hn hl).mono ?_
  rintro e w' ⟨he, S', hq', hst⟩
  have h7' := h7.trans (hb.mono h7.size)
  have hsb := hst.belowB h8 h7'.size
  refine ⟨he, hm.kept hst.1 (fun e => by have := h1.lt e; omega), S', S2, hq', (h2.below hb).kept hst.1 (fun k e e2 => h3 k e2 e), fun g hg e => ?_, fun e => ?_, h5, (h6.below hb).kept hst.1 h4, h7'.trans hsb.1, hsb.2, h9, h10⟩
  · rcases hst.2 g hg with e2 | e2
    · exact h3 g e2 e
    · have := h2.lt e; omega
  · rcases hst.2 Bo e with e2 | e2
    · exact h4 e2
    · omega
/-- A push into the second. -/
theorem Duo.pushP (h : Duo w wr Bp Bo n A P o) (hf : m.fits) (hn : hasS P m.k.f m.u = false) (hl : P.length < 16384) :
    Calls Try.prog 15 #[.pointer (some ⟨Bp + 2, 0, none⟩), m.val] wr fun e w' => e = .returned (.int .i64 0) ∧ Hid (Duo w w' Bp Bo (n + 1) A (mg ltM P [m]) o) := by
  obtain ⟨S, S2, h1, h2, h3, h4, h5, h6, h7, h8, h9, h10⟩ := h
  have hbo := h6.lt
  refine (hPush_takes h2 m hf hn hl).mono ?_
  rintro e w' ⟨he, S', hq', hst⟩
  have hsb := hst.belowB h9 h7.size
  refine ⟨he, S, S', h1.kept hst.1 h3, hq', fun g hg e => ?_, h4, fun e => ?_, h6.kept hst.1 h5, h7.trans hsb.1, h8, hsb.2, h10⟩
  · rcases hst.2 g e with e2 | e2
    · exact h3 g hg e2
    · have := h1.lt hg; omega
  · rcases hst.2 Bo e with e2 | e2
    · exact h5 e2
    · omega
/-- A cut of what is there out of the first. -/
theorem Duo.cutQ (h : Duo w wr Bp Bo n A P o) (ha : a ∈ A) (hf : a.fits) (hAP : ∀ i (hi : i < A.length), A[i] = a → A.eraseIdx i = P) :
    Calls Try.prog 18 #[.pointer (some ⟨w.heap.size + 2, 0, none⟩), .int .i64 a.k.f, .int .i64 a.u] wr fun e w' => e = .returned (.tuple #[a.val, .int .i64 0]) ∧ Hid (Duo w w' Bp Bo n P P o) := by
  obtain ⟨S, S2, h1, h2, h3, h4, h5, h6, h7, h8, h9, h10⟩ := h
  obtain ⟨i, hi, ea⟩ := List.getElem_of_mem ha
  have hp : (a :: A.eraseIdx i).Perm A := by
    have := erase_perm hi
    rwa [ea] at this
  rw [hAP i hi ea] at hp
  refine (hCut_some h1 hp h2.o).mono ?_
  rintro e w' ⟨he, S', hq', hst⟩
  have hsb := hst.belowB h8 h7.size
  have hbo := h6.lt
  refine ⟨he, S', S2, hq', h2.kept hst.1 (fun k e e2 => h3 k e2 e), fun g hg e => ?_, fun e => ?_, h5, h6.kept hst.1 h4, h7.trans hsb.1, hsb.2, h9, h10⟩
  · rcases hst.2 g hg with e2 | e2
    · exact h3 g e2 e
    · have := h2.lt e; omega
  · rcases hst.2 Bo e with e2 | e2
    · exact h4 e2
    · omega
end

/-- The messages without the one at k. -/
def outU (ms : List M) (k i : Nat) : List M := (inU ms i).filter fun m => !decide (m.u = (k : Int))
theorem outU_mem {ms : List M} {k i : Nat} {m : M} (h : m ∈ outU ms k i) : ∃ j, j < i ∧ m = nthU ms j := inU_mem (List.mem_filter.1 h).1
theorem outU_succ (ms : List M) (k i : Nat) : outU ms k (i + 1) = if i = k then outU ms k i else outU ms k i ++ [nthU ms i] := by
  unfold outU
  rw [inU_succ, List.filter_append]
  by_cases h : i = k
  · subst h
    simp [nthU]
  · have : ¬ ((i : Int) = (k : Int)) := by omega
    simp [nthU, this, h]
theorem outU_new (ms : List M) (k i : Nat) (f : Int) : hasS (stab ltM (outU ms k i)) f (i : Int) = false := by
  rw [hasS_perm (stab_perm _)]
  cases h : hasS (outU ms k i) f (i : Int) with
  | false => rfl
  | true =>
    obtain ⟨m, hm, _, hu⟩ := hasS_iff.1 h
    obtain ⟨j, hj, rfl⟩ := outU_mem hm
    simp [nthU] at hu
    omega
theorem outU_length (ms : List M) (k i : Nat) : (outU ms k i).length ≤ i := by
  have := List.length_filter_le (fun m : M => !decide (m.u = (k : Int))) (inU ms i)
  rw [inU_length] at this
  exact this
theorem inU_unlike (ms : List M) : ∀ i, Unlike (inU ms i)
  | 0 => List.Pairwise.nil
  | i + 1 => by
    rw [inU_succ]
    refine unlike_snoc (inU_unlike ms i) ?_
    rw [← hasS_perm (stab_perm _)]
    exact inU_new ms i _
theorem inU_has (ms : List M) {k i : Nat} (h : k < i) : nthU ms k ∈ stab ltM (inU ms i) := (stab_perm _).mem_iff.2 (by simp [inU]; exact ⟨k, h, rfl⟩)
/-- What is left of the queue is the other queue. -/
theorem cut_is_out (ms : List M) {k n : Nat} (hk : k < n) : ∀ i (hi : i < (stab ltM (inU ms n)).length), (stab ltM (inU ms n))[i] = nthU ms k → (stab ltM (inU ms n)).eraseIdx i = stab ltM (outU ms k n) := by
  intro i hi he
  have hU := (inU_unlike ms n).perm (stab_perm (lt := ltM) (inU ms n)).symm
  have hO := stab_inOrder ordM (inU ms n)
  obtain ⟨o1, o2⟩ := erase_keeps i hO hU
  refine sorted_unique ?_ o1 (stab_inOrder ordM _) o2
  refine List.Perm.trans ?_ (stab_perm _).symm
  have hp : (nthU ms k :: (stab ltM (inU ms n)).eraseIdx i).Perm (inU ms n) := by
    have := erase_perm hi
    rw [he] at this
    exact this.trans (stab_perm _)
  have hq : (nthU ms k :: outU ms k n).Perm (inU ms n) := by
    clear hp hi he o1 o2 hO hU
    induction n with
    | zero => omega
    | succ n ih =>
      rw [outU_succ, inU_succ]
      by_cases e : n = k
      · subst e
        rw [if_pos rfl]
        have : outU ms n n = inU ms n := by
          unfold outU
          refine List.filter_eq_self.2 fun m hm => ?_
          obtain ⟨j, hj, rfl⟩ := inU_mem hm
          simp [nthU]
          omega
        rw [this]
        exact List.perm_append_comm (l₁ := [nthU ms n])
      · rw [if_neg e, ← List.cons_append]
        exact (ih (by omega)).append_right _
  exact List.Perm.cons_inv (hp.trans hq.symm)
theorem wf_u8n {n : Int} (h : (Lit.int .u8 n).wf = true) : 0 ≤ n ∧ n ≤ 255 := by
  simpa [Lit.wf, IntKind.min, IntKind.max, IntKind.signed, IntKind.bits] using h
/-- What the box holds behind i rounds. -/
def oU (ms : List M) (k i : Nat) : M := if k < i then nthU ms k else zeroM
theorem oU_other {ms : List M} {k i : Nat} (h : i ≠ k) : oU ms k (i + 1) = oU ms k i := by
  unfold oU
  by_cases hk : k < i
  · rw [if_pos hk, if_pos (by omega)]
  · rw [if_neg hk, if_neg (by omega)]
theorem oU_at (ms : List M) (k : Nat) : oU ms k (k + 1) = nthU ms k := if_pos (Nat.lt_succ_self k)
theorem outU_none (ms : List M) (k n : Nat) (f : Int) : hasS (stab ltM (outU ms k n)) f (k : Int) = false := by
  rw [hasS_perm (stab_perm _)]
  cases h : hasS (outU ms k n) f (k : Int) with
  | false => rfl
  | true =>
    obtain ⟨m, hm, _, hu⟩ := hasS_iff.1 h
    have := (List.mem_filter.1 hm).2
    simp [hu] at this
theorem zeroM_cells' : zeroM.cells = #[.int .i64 0, .int .i64 0, .int .i64 0, .int .i64 0, .int .i64 0, .int .i64 0, .bool false] := rfl
/-- The last four calls. -/
theorem Duo.ends {w wr : World} {Bp Bo n : Nat} {P : List M} {o : M} (h : Duo w wr Bp Bo n P P o) :
    Calls Try.prog 13 #[.pointer (some ⟨w.heap.size + 2, 0, none⟩)] wr fun e w1 => ∃ (a1 : Option Addr) (c1 : Nat), e = .returned (.slice a1 P.length c1) ∧ Hid (
      Calls Try.prog 13 #[.pointer (some ⟨Bp + 2, 0, none⟩)] w1 fun e w2 => ∃ (a2 : Option Addr) (c2 : Nat), e = .returned (.slice a2 P.length c2) ∧ Hid (
        Calls Try.prog 12 #[.slice a1 P.length c1, .slice a2 P.length c2] w2 fun e w3 => e = .returned (.bool true) ∧ Hid (
          Calls Try.prog 11 #[.pointer (some ⟨w.heap.size + 2, 0, none⟩)] w3 fun e w4 => e = .returned (.int .i64 P.length) ∧ w3 = w4 ∧ Below w.heap.size w w4))) := by
  have hB0 : Below w.heap.size w wr := h.b
  have hall := h
  obtain ⟨v, v2, h1, h2, _⟩ := h
  refine (hAll_any h1).mono ?_
  rintro e w1 ⟨a1, c1, he, hM1⟩
  obtain ⟨hM1, hb1, _⟩ := hM1.out
  have hb1 : Below wr.heap.size wr w1 := hb1
  refine ⟨a1, c1, he, ?_⟩
  refine (hAll_any (h2.below hb1)).mono ?_
  rintro e w2 ⟨a2, c2, he2, hM2⟩
  obtain ⟨hM2, hb2, _⟩ := hM2.out
  have hM1' := hM1.below hb2
  refine ⟨a2, c2, he2, (same_eq hM1' hM2).mono ?_⟩
  rintro e w3 ⟨he3, hr3⟩
  refine ⟨he3, (hLen_any ((h1.below hb1).below (hb2.trans (hr3.below.mono hb2.size)))).mono ?_⟩
  rintro e w4 ⟨he4, rfl⟩
  exact ⟨he4, rfl, (hB0.trans (hb1.mono hB0.size)).trans ((hb2.trans (hr3.below.mono hb2.size)).mono (Nat.le_trans hB0.size hb1.size))⟩

set_option maxHeartbeats 4000000 in
set_option maxRecDepth 100000 in
theorem lawLadderCuts_wide (Wd : Int) (hWf : (Lit.int .i64 Wd).wf = true) (hWd : 1 ≤ Wd ∧ Wd ≤ 16384) {w : World} {a : Option Addr} {len cap : Nat} {ms : List M} (h : Msgs w a len cap ms) (hr : len * 56 ≤ 140737488351232) (x : Nat) (hx : x < 256) :
    Calls Try.prog 5 #[.int .i64 Wd, .slice a len cap, .int .u8 x] w fun e w' => e = .returned (.bool true) ∧ Below w.heap.size w w' := by
  have mixed := mixed
  have hlen := Lib.hid h.1
  have hfit := Lib.hid h.2.2.2.1
  have hmx : len ≤ 9223372036854775807 := by have h1 := h.2.1; have h2 := h.2.2.1; unfold maxLen at h2; omega
  obtain ⟨nn, hnn⟩ : ∃ nn, nn = min len 300 := ⟨_, rfl⟩
  have hm : min (len : Int) 300 = (nn : Int) := by rw [hnn]; omega
  have hnn' : nn ≤ len ∧ nn ≤ 300 := by omega
  obtain ⟨hn1, hn2⟩ := hnn'
  have h' := Lib.hid h
  clear h hnn
  go_enter Try.func5, Try.ntmps5
  go_upto_region 2 with (go_at_call 8; refine (hNew_any w hWd hWf).mono ?_; rintro e w1 ⟨rfl, hQ1'⟩)
  go_upto_region 6 with (go_at_call 8; refine (hNew_any w1 hWd hWf).mono ?_; rintro e w2 ⟨rfl, hQ2'⟩)
  have hbd1 : w.heap.size + 2 < w1.heap.size := hQ1'.out.1.lt hQ1'.out.1.own
  have hbd2 : w1.heap.size + 2 < w2.heap.size := hQ2'.out.1.lt hQ2'.out.1.own
  by_cases h0 : nn = 0
  · subst h0
    have hc := hCut_none (hQ1'.out.1.below hQ2'.out.2) (f := 0) (u := 0) (by kernel_rfl) (by kernel_rfl) rfl
    rw [zeroM_val] at hc
    have hbb : Hid (∀ w3, Below w2.heap.size w2 w3 → Below w.heap.size w w3) := fun w3 hb => (hQ1'.out.2.trans (hQ2'.out.2.mono hQ1'.out.2.size)).trans (hb.mono (by omega))
    clear hbd1 hbd2
    go_wp2_with (go_at_call 18; refine hc.mono ?_; rintro e w3 ⟨rfl, hb3⟩; have hb3' := Lib.hid hb3; clear hb3)
    go_ret
    exact ⟨rfl, (hbb.out _ hb3'.out).alloc (hbb.out _ hb3'.out).size _⟩
  · have hz0 : ((nn : Int) == 0) = false := by simp; omega
    have hpos : 0 < nn := by omega
    clear h0
    obtain ⟨k, hk⟩ : ∃ k, k = x % nn := ⟨_, rfl⟩
    have hkn : k < nn := by rw [hk]; exact Nat.mod_lt _ hpos
    have hxi : (x : Int) < 256 := by omega
    have hmod : Int.tmod (x : Int) (nn : Int) = (k : Int) := by rw [hk]; exact (Int.ofNat_tmod x nn).symm
    have hwx : IntKind.i64.wrap (x : Int) = (x : Int) := IntWalk.i64_in _ (by omega)
    have hwk : IntKind.i64.wrap (k : Int) = (k : Int) := IntWalk.i64_in _ (by omega)
    clear hk
    go_upto_region 11 with (fail)
    have hD0 : Duo w (w2.alloc (.cells zeroM.cells 34)) w1.heap.size w2.heap.size (2 * 0) (stab ltM (inU ms 0)) (stab ltM (outU ms k 0)) (oU ms k 0) := by
      have hb := (Below.refl _ w2).alloc (Nat.le_refl _) (.cells zeroM.cells 34)
      refine ⟨newS w, newS w1, (hQ1'.out.1.below hQ2'.out.2).below hb, hQ2'.out.1.below hb, (fun g hg e => by have h1 := hg.2; have h2 := e.1; omega), (fun e => by have h1 := e.2; omega), (fun e => by have h1 := e.2; omega), ?_, (hQ1'.out.2.trans (hQ2'.out.2.mono hQ1'.out.2.size)).trans (hb.mono (by omega)), (fun g e => e.1), (fun g e => by have h1 := e.1; omega), by omega⟩
      show BoxM _ _ (oU ms k 0)
      rw [show oU ms k 0 = zeroM from if_neg (Nat.not_lt_zero k)]
      exact BoxM.mk w2 zeroM
    have hD0' := Lib.hid hD0
    simp only [zeroM_cells'] at hD0'
    clear hD0
    have hbd1' := Lib.hid hbd1
    have hbd2' := Lib.hid hbd2
    clear hbd1 hbd2 hQ1' hQ2' hmod hwx hwk
    generalize w2.alloc (.cells #[.int .i64 0, .int .i64 0, .int .i64 0, .int .i64 0, .int .i64 0, .int .i64 0, .bool false] 34) = W3 at hD0' ⊢
    generalize w2.heap.size = Bo at hD0' hbd2' ⊢
    generalize w1.heap.size = Bp at hD0' hbd1' hbd2' ⊢
    go_wp2_with fail
    go_loopw [16] (fun s12 wr => ∃ i : Nat, i ≤ nn ∧ s12 = .int .i64 i ∧ Hid (Duo w wr Bp Bo (2 * i) (stab ltM (inU ms i)) (stab ltM (outU ms k i)) (oU ms k i))) (fun s12 _ => nn - (intOf s12).toNat)
    case atStart => exact ⟨0, Nat.zero_le _, rfl, hD0'⟩
    case round =>
      obtain ⟨i, hi, rfl, hD⟩ := hrel
      clear hD0'
      by_cases hin : i < nn
      · have hz : (i : Int) < (nn : Int) := by omega
        obtain ⟨b, off, rfl, hma⟩ : ∃ b off, a = some ⟨b, off, none⟩ ∧ ∀ i, i < len → MsgAt w b (off + i * 7) (ms.getD i default) := by
          rcases h'.out.2.2.2.2 with h0 | hx
          · omega
          · exact hx
        have hmk := (hma i (by omega)).below hD.out.b
        have hkl : i < len := by omega
        have hnk : Hid (nthU ms i = { ms.getD i default with u := (i : Int) }) := rfl
        generalize ms.getD i default = m at hmk hnk
        obtain ⟨⟨t, f, s⟩, tt, vv, u, an⟩ := m
        obtain ⟨-, x0, x1, x2, x3, x4, x5, x6⟩ := hmk
        simp only at x0 x1 x2 x3 x4 x5 x6 hnk
        clear hma
        go_upto_region 16 with (fail)
        have hbx : BoxM (wr.alloc (.cells #[.int .i64 t, .int .i64 f, .int .i64 s, .int .i64 tt, .int .i64 vv, .int .i64 (i : Int), .bool an] 34)) wr.heap.size ⟨⟨t, f, s⟩, tt, vv, (i : Int), an⟩ := BoxM.mk wr ⟨⟨t, f, s⟩, tt, vv, (i : Int), an⟩
        have hb2 : Below wr.heap.size wr (wr.alloc (.cells #[.int .i64 t, .int .i64 f, .int .i64 s, .int .i64 tt, .int .i64 vv, .int .i64 (i : Int), .bool an] 34)) := (Below.refl _ wr).alloc (Nat.le_refl _) _
        have hnf := nthU_fits hfit.out i (by rw [hlen.out]; omega) (by omega)
        rw [← hnk.out] at hbx
        have hps := hD.out.pushQ hb2 hbx (Nat.le_refl _) hnf (inU_new ms i _) (by rw [stab_length, inU_length]; omega)
        have hA : mg ltM (stab ltM (inU ms i)) [nthU ms i] = stab ltM (inU ms (i + 1)) := by rw [inU_succ, stab_snoc]
        rw [hA] at hps
        obtain ⟨-, y0, y1, y2, y3, y4, y5, y6⟩ := hbx.at
        simp only [Nat.zero_add] at y0 y1 y2 y3 y4 y5 y6
        have hpp : Hid (∀ w5, Duo w w5 Bp Bo (2 * i + 1) (stab ltM (inU ms (i + 1))) (stab ltM (outU ms k i)) (oU ms k i) → i ≠ k → Calls Try.prog 15 #[.pointer (some ⟨Bp + 2, 0, none⟩), (nthU ms i).val] w5 fun e w' => e = .returned (.int .i64 0) ∧ Hid (Duo w w' Bp Bo (2 * (i + 1)) (stab ltM (inU ms (i + 1))) (stab ltM (outU ms k (i + 1))) (oU ms k (i + 1)))) := by
          intro w5 hd hik
          have := hd.pushP hnf (outU_new ms k i _) (by rw [stab_length]; have := outU_length ms k i; omega)
          refine this.mono ?_
          rintro e w' ⟨he, hd2⟩
          refine ⟨he, ?_⟩
          have h2 := hd2.out
          rw [oU_other hik, outU_succ, if_neg hik, stab_snoc]
          exact h2
        have hpo : Hid (∀ w5 w6, Duo w w5 Bp Bo (2 * i + 1) (stab ltM (inU ms (i + 1))) (stab ltM (outU ms k i)) (oU ms k i) → i = k → KeptOff (fun k => k = Bo) w5 w6 → BoxM w6 Bo (nthU ms i) → Duo w w6 Bp Bo (2 * (i + 1)) (stab ltM (inU ms (i + 1))) (stab ltM (outU ms k (i + 1))) (oU ms k (i + 1))) := by
          rintro w5 w6 hd rfl hk6 hb6
          rw [oU_at, outU_succ, if_pos rfl]
          exact (hd.box hk6 hb6).mono (by omega)
        have hbo : Hid (∀ w5, Duo w w5 Bp Bo (2 * i + 1) (stab ltM (inU ms (i + 1))) (stab ltM (outU ms k i)) (oU ms k i) → BoxM w5 Bo (oU ms k i)) := by
          exact fun w5 h => h.bx
        generalize wr.heap.size = Bx at hps y0 y1 y2 y3 y4 y5 y6 ⊢
        generalize wr.alloc (.cells #[.int .i64 t, .int .i64 f, .int .i64 s, .int .i64 tt, .int .i64 vv, .int .i64 (i : Int), .bool an] 34) = W4 at hps y0 y1 y2 y3 y4 y5 y6 ⊢
        generalize nthU ms i = m at hps y0 y1 y2 y3 y4 y5 y6 hpp hpo
        simp only [M.val] at hps hpp
        have hps' := Lib.hid hps
        clear hps hnk hnf hA hb2 hbx x0 x1 x2 x3 x4 x5 x6 hD
        go_upto_region 17 with (go_at_call 15; refine hps'.out.mono ?_; rintro e w5 ⟨rfl, h5⟩; have h5' := Lib.hid h5.out; clear h5)
        obtain ⟨-, z0, z1, z2, z3, z4, z5, z6⟩ := h5'.out.1.at
        simp only [Nat.zero_add] at z0 z1 z2 z3 z4 z5 z6
        clear y0 y1 y2 y3 y4 y5 y6 hps'
        by_cases hik : i = k
        · subst hik
          have hbo5 := Lib.hid (hbo.out w5 h5'.out.2)
          have hfin := Lib.hid (hpo.out w5 (w5.setRow Bo m.cells) h5'.out.2 rfl (KeptOff.row _ _ _) (hbo5.out.row m))
          clear hpp hpo hbo
          go_wp2_with (refine wpList_store_row rfl 34 (.tmp 15) (.tmp 81) rfl Bo m.cells rfl rfl 34 (oU ms i i).cells hbo5.out infoS rfl (M.cells_one m) ?_)
          go_roundw
          case rel => exact ⟨i + 1, by omega, by go_num, hfin⟩
          case measure => simp [intOf]; omega
        · have hzk : ¬ (i : Int) = (k : Int) := by omega
          have hpu := Lib.hid (hpp.out w5 h5'.out.2 hik)
          clear hik hpp hpo hbo
          go_wp2_with (go_at_call 15; refine hpu.out.mono ?_; rintro e w6 ⟨rfl, h6⟩; have h6' := Lib.hid h6.out; clear h6)
          go_roundw
          case rel => exact ⟨i + 1, by omega, by go_num, h6'⟩
          case measure => simp [intOf]; omega
      · obtain rfl : i = nn := by omega
        have hz : ¬ (i : Int) < (i : Int) := by omega
        have hPl : (stab ltM (outU ms k i)).length = i - 1 := by
          obtain ⟨j, hj, e⟩ := List.getElem_of_mem (inU_has ms hkn)
          rw [← cut_is_out ms hkn j hj e, List.length_eraseIdx_of_lt hj, stab_length, inU_length]
        have hnf := nthU_fits hfit.out k (by rw [hlen.out]; omega) (by omega)
        have hno := fun f => outU_none ms k i f
        have hD2 := hD.out
        rw [show oU ms k i = nthU ms k from if_pos hkn] at hD2
        have hcut := hD2.cutQ (inU_has ms hkn) hnf (cut_is_out ms hkn)
        have hbo : BoxM wr Bo (nthU ms k) := hD2.bx
        have hmu : (nthU ms k).u = (k : Int) := rfl
        rw [hmu] at hcut
        have hkw : (Lit.int .i64 (k : Int)).wf = true := WalkArith.wf_i64 (by omega)
        generalize stab ltM (outU ms k i) = P at hPl hno hcut
        generalize nthU ms k = m at hnf hcut hbo hmu
        have hnx : Hid (∀ W6, Duo w W6 Bp Bo (2 * i) P P m → BoxM W6 Bo m ∧ Calls Try.prog 18 #[.pointer (some ⟨w.heap.size + 2, 0, none⟩), .int .i64 m.k.f, .int .i64 (k : Int)] W6 fun e w7 => e = .returned (.tuple #[zeroM.val, .int .i64 6]) ∧ Below W6.heap.size W6 w7) := by
          intro W6 hd
          have h5 := hd.bx
          obtain ⟨S, S2, q1, _⟩ := hd
          exact ⟨h5, hCut_none q1 hnf.1.2.1 hkw (hno _)⟩
        have heq := fun w => eqlM m m w
        simp only [decide_true, M.val] at heq
        have hlw : IntKind.i64.wrap ((i : Int) - 1) = (i : Int) - 1 := IntWalk.i64_in _ (by omega)
        have hle : (P.length : Int) = (i : Int) - 1 := by omega
        obtain ⟨-, -, y1, -, -, -, -, -⟩ := hbo.at
        simp only [Nat.zero_add] at y1
        rw [zeroM_val] at hnx
        simp only [M.val] at hcut
        have hcut' := Lib.hid hcut
        have hle' := Lib.hid hle
        clear hcut hD hD2 hno hmu hnf hbo hPl hkw hle
        go_upto_region 21 with (go_at_call 18; refine hcut'.out.mono ?_; rintro e w5 ⟨rfl, h5⟩; have h5' := Lib.hid h5.out; clear h5)
        have hb6 : Below w5.heap.size w5 (w5.alloc (.cells m.cells 34)) := (Below.refl _ w5).alloc (Nat.le_refl _) _
        have hD6 := Lib.hid (h5'.out.below hb6)
        have hx6 := Lib.hid (BoxM.mk w5 m)
        simp only [M.cells] at hD6 hx6
        clear hb6 hcut' y1
        generalize w5.heap.size = B14 at hx6 ⊢
        generalize w5.alloc (.cells #[.int .i64 m.k.t, .int .i64 m.k.f, .int .i64 m.k.s, .int .i64 m.to, .int .i64 m.v, .int .i64 m.u, .bool m.anti] 34) = W6 at hD6 hx6 ⊢
        obtain ⟨hbo6, hc6⟩ := hnx.out W6 hD6.out
        obtain ⟨-, -, y1, -, -, -, -, -⟩ := hbo6.at
        simp only [Nat.zero_add] at y1
        clear hbo6
        go_upto_region 22 with (go_at_call 18; refine hc6.mono ?_; rintro e w7 ⟨rfl, h7⟩; have h7' := Lib.hid h7; clear h7)
        have hb8 := h7'.out.alloc h7'.out.size (.cells zeroM.cells 34)
        have hD8 := Lib.hid (hD6.out.below hb8)
        have hx8 := Lib.hid (hx6.out.kept (S := fun _ => False) (.of_below hb8) (fun e => e))
        simp only [zeroM_cells'] at hD8 hx8
        clear hb8 hc6 y1 hD6 hx6
        generalize w7.alloc (.cells #[.int .i64 0, .int .i64 0, .int .i64 0, .int .i64 0, .int .i64 0, .int .i64 0, .bool false] 34) = W8 at hD8 hx8 ⊢
        obtain ⟨hbo8, -⟩ := hnx.out W8 hD8.out
        obtain ⟨-, y0, y1, y2, y3, y4, y5, y6⟩ := hbo8.at
        obtain ⟨-, z0, z1, z2, z3, z4, z5, z6⟩ := hx8.out.at
        simp only [Nat.zero_add] at y0 y1 y2 y3 y4 y5 y6 z0 z1 z2 z3 z4 z5 z6
        have hE := hD8.out.ends
        have hle2 := hle'.out
        generalize P.length = L at hE hle2
        rw [hle2] at hE
        clear hbo8 hnx hle2 hle' hD8 hx8
        go_wp2_with (first
          | (go_at_call 13; (with_reducible refine hE.mono ?_); rintro e w9 ⟨a1, c1, rfl, hE2⟩; have hE2' := hE2.out; clear hE2)
          | (go_at_call 13; (with_reducible refine hE2'.mono ?_); rintro e w10 ⟨a2, c2, rfl, hE3⟩; have hE3' := hE3.out; clear hE3)
          | (go_at_call 12; (with_reducible refine hE3'.mono ?_); rintro e w11 ⟨rfl, hE4⟩; have hE4' := hE4.out; clear hE4)
          | (go_at_call 11; (with_reducible refine hE4'.mono ?_); rintro e w12 ⟨rfl, rfl, hb12⟩; have hb12' := Lib.hid hb12; clear hb12))
        go_ret
        exact ⟨rfl, hb12'.out⟩
set_option maxHeartbeats 1000000 in
theorem lawLadderCuts (Wd : Int) (hWf : (Lit.int .i64 Wd).wf = true) {w : World} {a : Option Addr} {len cap : Nat} {ms : List M} (h : Msgs w a len cap ms) (hr : len * 56 ≤ 140737488351232) (x : Nat) (hx : x < 256) :
    Calls Try.prog 5 #[.int .i64 Wd, .slice a len cap, .int .u8 x] w fun e w' => e = .returned (.bool true) ∧ Below w.heap.size w w' := by
  by_cases hWd : 1 ≤ Wd ∧ Wd ≤ 16384
  · exact lawLadderCuts_wide Wd hWf hWd h hr x hx
  · rcases (by omega : Wd < 1 ∨ 16384 < Wd) with hW1 | hW1
    · have hWx := hW1
      have hnew := hNew_no w (W := Wd) (by omega)
      have haw := awake8_any w
      clear h hWd hWf hr hx
      go_enter Try.func5, Try.ntmps5
      go_wp2_with (first
        | (go_at_call 8; refine hnew.mono ?_; rintro e w1 ⟨rfl, rfl⟩))
      go_ret
      exact ⟨rfl, Below.refl _ _⟩
    · have hWx : ¬ Wd < 1 := by omega
      have hnew := hNew_no w (W := Wd) (by omega)
      have haw := awake8_any w
      clear h hWd hWf hr hx
      go_enter Try.func5, Try.ntmps5
      go_wp2_with (first
        | (go_at_call 8; refine hnew.mono ?_; rintro e w1 ⟨rfl, rfl⟩)
        | (go_at_call 14; refine haw.mono ?_; rintro e w2 ⟨rfl, hb2⟩; have hb2' := Lib.hid hb2; clear hb2))
      go_ret
      exact ⟨rfl, hb2'.out⟩
end Go.Proofs.Ytcfpfbemmklbaaa
