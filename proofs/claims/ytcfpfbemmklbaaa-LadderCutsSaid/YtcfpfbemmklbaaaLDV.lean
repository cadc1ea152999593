
/-
  The law that there is one message of a sending; awake.
-/
import Derived.Test.YtcfpfbemmklbaaaLDU
namespace Go.Proofs.Ytcfpfbemmklbaaa
open Go.ChangeShapes Go.WideShapes Go.ChangeAt Go.Shelf Go.RowKit Go.Lib Go.Sort Go.Deep Go.Maps
set_option linter.unusedVariables false

theorem CStep.belowB {w w' : World} {S S' : Nat → Prop} {B : Nat} (h : CStep w w' S S') (hS : ∀ k, S k → B ≤ k) (hB : B ≤ w.heap.size) : Below B w w' ∧ ∀ k, S' k → B ≤ k :=
  ⟨h.1.below (fun k _ e => hS k e) hB, fun k e => (h.2 k e).elim (hS k) (fun e => Nat.le_trans hB e)⟩
theorem zero_fits1 : (⟨⟨0, 0, 0⟩, 0, 0, 1, false⟩ : M).fits := ⟨⟨by kernel_rfl, by kernel_rfl, by kernel_rfl⟩, by kernel_rfl, by kernel_rfl, by kernel_rfl⟩
set_option maxHeartbeats 1000000 in
theorem awake8_any (w : World) : Calls Try.prog 14 #[] w fun e w' => e = .returned (.bool true) ∧ Below w.heap.size w w' := by
  have hst : Hid (∀ w1, CalAt w1 (w.heap.size + 2) (newS w) [] ∧ Below w.heap.size w w1 → Calls Try.prog 15 #[.pointer (some ⟨w.heap.size + 2, 0, none⟩), .agg #[.int .i64 0, .int .i64 0, .int .i64 0, .int .i64 0, .int .i64 0, .int .i64 1, .bool false]] w1 fun e w2 => e = .returned (.int .i64 0) ∧
      Hid (Calls Try.prog 11 #[.pointer (some ⟨w.heap.size + 2, 0, none⟩)] w2 fun e w3 => e = .returned (.int .i64 1) ∧ w2 = w3 ∧ Below w.heap.size w w3)) := by
    rintro w1 ⟨hq, hb⟩
    refine (hPush_takes hq ⟨⟨0, 0, 0⟩, 0, 0, 1, false⟩ zero_fits1 rfl (by simp)).mono ?_
    rintro e w2 ⟨he, S', hq', hs⟩
    refine ⟨he, (hLen_any hq').mono ?_⟩
    rintro e w3 ⟨he3, rfl⟩
    exact ⟨by rw [he3, mg_length]; rfl, rfl, hb.trans (hs.belowB (fun k e => e.1) hb.size).1⟩
  have hnew := hNew_any w (W := 4) (by omega) (by kernel_rfl)
  go_enter Try.func14, Try.ntmps14
  go_wp2_with (first
    | (go_at_call 8; refine hnew.mono ?_; rintro e w1 ⟨rfl, hQ1⟩; have hp := hst.out w1 hQ1.out; clear hQ1)
    | (go_at_call 15; (with_reducible refine hp.mono ?_); rintro e w2 ⟨rfl, h2⟩; have hl := h2.out; clear h2)
    | (go_at_call 11; (with_reducible refine hl.mono ?_); rintro e w3 ⟨rfl, rfl, hb⟩; have hb' := Lib.hid hb; clear hb))
  go_ret
  exact ⟨rfl, hb'.out⟩

/-- b as a message of a's sending. -/
def asOf (a b : M) : M := ⟨⟨b.k.t, a.k.f, b.k.s⟩, b.to, b.v, a.u, b.anti⟩
theorem asOf_fits {a b : M} (ha : a.fits) (hb : b.fits) : (asOf a b).fits := ⟨⟨hb.1.1, ha.1.2.1, hb.1.2.2⟩, hb.2.1, hb.2.2.1, ha.2.2.2⟩
theorem BoxM.asOf {w : World} {B : Nat} {b : M} (h : BoxM w B b) (a : M) : BoxM ((w.setCell ⟨B, 1, none⟩ (.int .i64 a.k.f)).setCell ⟨B, 5, none⟩ (.int .i64 a.u)) B (asOf a b) := by
  unfold BoxM at h ⊢
  simp [World.setCell, Array.getElem?_modify, h, M.cells, Go.Proofs.Ytcfpfbemmklbaaa.asOf]
theorem hasS_self {T : List M} {m : M} (h : m ∈ T) : hasS T m.k.f m.u = true := hasS_iff.2 ⟨m, h, rfl, rfl⟩
theorem pushT_mem {T : List M} {m x : M} (h : x ∈ T) : x ∈ pushT T m := by
  unfold pushT
  split
  · exact h
  · split
    · exact h
    · exact (mg_perm T [m]).mem_iff.2 (List.mem_append_left _ h)
theorem pushT_length (T : List M) (m : M) : (pushT T m).length ≤ T.length + 1 := by
  unfold pushT
  split
  · omega
  · split
    · omega
    · rw [mg_length]; simp
/-- In a list of unlike ones, the one of a sending is the one. -/
theorem unlike_eq {T : List M} (hU : Unlike T) {a : M} (ha : a ∈ T) {i : Nat} (hi : i < T.length) (h1 : T[i].k.f = a.k.f) (h2 : T[i].u = a.u) : T[i] = a := by
  obtain ⟨j, hj, rfl⟩ := List.getElem_of_mem ha
  rcases Nat.lt_trichotomy i j with h | rfl | h
  · exact absurd ⟨h1, h2⟩ (List.pairwise_iff_getElem.1 hU i j hi hj h)
  · rfl
  · exact absurd ⟨h1.symm, h2.symm⟩ (List.pairwise_iff_getElem.1 hU j i hj hi h)

/-- What stands behind k rounds. -/
def TwiceAt (B : Nat) (W wr : World) (a : M) (k : Nat) : Prop :=
  ∃ S T, CalAt wr (B + 2) S T ∧ a ∈ T ∧ T.length ≤ k + 1 ∧ (∀ k, S k → B ≤ k) ∧ B ≤ W.heap.size ∧ Below B W wr
theorem twice_step {B : Nat} {W wr : World} {a : M} {k : Nat} (h : TwiceAt B W wr a k) (m : M) (hm : m.fits) :
    Calls Try.prog 15 #[.pointer (some ⟨B + 2, 0, none⟩), m.val] wr fun e w' => (∃ c : Int, e = .returned (.int .i64 c)) ∧ TwiceAt B W w' a (k + 1) := by
  obtain ⟨S, T, hq, ha, hl, hS, hW, hb⟩ := h
  refine (hPush_any hq m hm).mono ?_
  rintro e w' ⟨he, S', hq', hs⟩
  have h2 := hs.belowB hS (Nat.le_trans hW hb.size)
  exact ⟨⟨_, he⟩, S', _, hq', pushT_mem ha, by have := pushT_length T m; omega, h2.2, hW, hb.trans h2.1⟩
/-- The last three calls. -/
theorem twice_end {B : Nat} {W wr : World} {a b : M} {k : Nat} (h : TwiceAt B W wr a k) (ha : a.fits) (hb : b.fits) (hk : k ≤ 100) :
    Calls Try.prog 18 #[.pointer (some ⟨B + 2, 0, none⟩), .int .i64 a.k.f, .int .i64 a.u] wr fun e w1 => e = .returned (.tuple #[a.val, .int .i64 0]) ∧ Below B W w1 ∧ ∀ w2, Below w1.heap.size w1 w2 →
      Calls Try.prog 15 #[.pointer (some ⟨B + 2, 0, none⟩), (asOf a b).val] w2 fun e w3 => e = .returned (.int .i64 0) ∧ Below B W w3 ∧ ∀ w4, Below w3.heap.size w3 w4 →
        Calls Try.prog 15 #[.pointer (some ⟨B + 2, 0, none⟩), a.val] w4 fun e w5 => e = .returned (.int .i64 8) ∧ Below B W w5 := by
  obtain ⟨S, T, hq, hm, hl, hS, hWB, hB⟩ := h
  obtain ⟨i, hi, ea⟩ := List.getElem_of_mem hm
  have hp : (a :: T.eraseIdx i).Perm T := by
    have := erase_perm hi
    rwa [ea] at this
  have hO : InOrder ltM (T.eraseIdx i) := (erase_keeps i hq.o hq.u).1
  refine (hCut_some hq hp hO).mono ?_
  rintro e w1 ⟨he, S1, hq1, hs1⟩
  have hBr := Nat.le_trans hWB hB.size
  have h1 := hs1.belowB hS hBr
  have hB1 := hB.trans h1.1
  have hsz1 : B ≤ w1.heap.size := Nat.le_trans hWB hB1.size
  refine ⟨he, hB1, fun w2 hb2 => ?_⟩
  have hn : hasS (T.eraseIdx i) a.k.f a.u = false := by
    rw [hasS_erase hp hq.u]
    simp
  have hll : (T.eraseIdx i).length ≤ 101 := by
    have := List.length_eraseIdx_le T i
    omega
  have hq2 := hq1.below hb2
  refine (hPush_takes hq2 (asOf a b) (asOf_fits ha hb) hn (by omega)).mono ?_
  rintro e w3 ⟨he3, S3, hq3, hs3⟩
  have h3 := hs3.belowB h1.2 (Nat.le_trans hsz1 hb2.size)
  have hB3 := (hB1.trans (hb2.mono hsz1)).trans h3.1
  refine ⟨he3, hB3, fun w4 hb4 => ?_⟩
  have hq4 := hq3.below hb4
  have hmem : hasS (mg ltM (T.eraseIdx i) [asOf a b]) a.k.f a.u = true := hasS_iff.2 ⟨asOf a b, (mg_perm _ _).mem_iff.2 (by simp), rfl, rfl⟩
  refine (hPush_stay hq4 a ha (.inl hmem)).mono ?_
  rintro e w5 ⟨he5, hb5⟩
  have hsz3 : B ≤ w3.heap.size := Nat.le_trans hWB hB3.size
  refine ⟨?_, (hB3.trans (hb4.mono hsz3)).trans (hb5.mono (Nat.le_trans hsz3 hb4.size))⟩
  rw [he5]
  unfold pushC
  rw [if_pos hmem]

set_option maxHeartbeats 4000000 in
set_option maxRecDepth 100000 in
theorem lawLadderTwice_wide (Wd : Int) (hWf : (Lit.int .i64 Wd).wf = true) (hWd : 1 ≤ Wd ∧ Wd ≤ 16384) (a : M) (ha : a.fits) (b : M) (hb : b.fits) {w : World} {sa : Option Addr} {len cap : Nat} {ms : List M} (h : Msgs w sa len cap ms) (hr : len * 56 ≤ 140737488351232) :
    Calls Try.prog 7 #[.int .i64 Wd, a.val, b.val, .slice sa len cap] w fun e w' => e = .returned (.bool true) ∧ Below w.heap.size w w' := by
  have mixed := mixed
  have hcapI : cap ≤ 9223372036854775807 ∧ len ≤ cap := by have h1 := h.2.1; have h2 := h.2.2.1; unfold maxLen at h2; omega
  obtain ⟨hcap1, hcap2⟩ := hcapI
  have hfit := Lib.hid h.2.2.2.1
  have hms := Lib.hid h
  have hlen := Lib.hid h.1
  have hW : Hid (Below w.heap.size w ((w.alloc (.cells a.cells 34)).alloc (.cells b.cells 34))) := ((Below.refl _ w).alloc (Nat.le_refl _) _).alloc (by simp) _
  have hA : Hid (BoxM ((w.alloc (.cells a.cells 34)).alloc (.cells b.cells 34)) w.heap.size a) := (BoxM.mk w a).kept (S := fun _ => False) (.of_below ((Below.refl _ _).alloc (Nat.le_refl _) _)) (fun e => e)
  have hBb : Hid (BoxM ((w.alloc (.cells a.cells 34)).alloc (.cells b.cells 34)) (w.heap.size + 1) b) := by
    have := BoxM.mk (w.alloc (.cells a.cells 34)) b
    show BoxM _ _ _
    simpa using this
  have hsz : Hid (((w.alloc (.cells a.cells 34)).alloc (.cells b.cells 34)).heap.size = w.heap.size + 2) := by show _ = _; simp
  have ha' := Lib.hid ha
  have hb' := Lib.hid hb
  clear h ha hb
  have haa := fun w => eqlM a a w
  simp only [decide_true, M.val] at haa
  simp only [M.val, M.cells] at hW hA hBb hsz ⊢
  go_enter Try.func7, Try.ntmps7
  go_upto_region 1 with (fail)
  generalize (w.alloc (.cells #[.int .i64 a.k.t, .int .i64 a.k.f, .int .i64 a.k.s, .int .i64 a.to, .int .i64 a.v, .int .i64 a.u, .bool a.anti] 34)).alloc (.cells #[.int .i64 b.k.t, .int .i64 b.k.f, .int .i64 b.k.s, .int .i64 b.to, .int .i64 b.v, .int .i64 b.u, .bool b.anti] 34) = W0 at hW hA hBb hsz ⊢
  have hnew := hNew_any W0 hWd hWf
  obtain ⟨B, hB⟩ : ∃ B, B = W0.heap.size := ⟨_, rfl⟩
  rw [← hB] at hnew hsz
  have hBe := Lib.hid hB
  clear hB
  go_upto_region 4 with (go_at_call 8; refine hnew.mono ?_; rintro e w1 ⟨rfl, hQ1'⟩)
  have hA1 := hA.out.kept (S := fun _ => False) (.of_below (hBe.out ▸ hQ1'.out.2)) (fun e => e)
  have hB1 := hBb.out.kept (S := fun _ => False) (.of_below (hBe.out ▸ hQ1'.out.2)) (fun e => e)
  obtain ⟨-, -, a1, -, -, -, a5, -⟩ := hA1.at
  obtain ⟨-, -, b1, -, -, -, b5, -⟩ := hB1.at
  simp only [Nat.zero_add] at a1 a5 b1 b5
  have f1 := hB1.fz 1
  have f5 := hB1.fz 5
  have hA1' := Lib.hid hA1
  have hB1' := Lib.hid hB1
  clear hA1 hB1 hnew
  go_upto_region 6 with (fail)
  have hk2 : KeptOff (fun k => k = w.heap.size + 1) w1 ((w1.setCell ⟨w.heap.size + 1, 1, none⟩ (.int .i64 a.k.f)).setCell ⟨w.heap.size + 1, 5, none⟩ (.int .i64 a.u)) := (KeptOff.set w1 ⟨w.heap.size + 1, 1, none⟩ _).trans (KeptOff.set _ ⟨w.heap.size + 1, 5, none⟩ _)
  have hB2 := Lib.hid (hB1'.out.asOf a)
  have hA2 := Lib.hid (hA1'.out.kept hk2 (by omega))
  have hBn := hsz.out
  have hq2 := Lib.hid (hQ1'.out.1.kept hk2 (fun k hk e => by have h1 := hk.1; have := hBe.out; omega))
  have hbw2 : Hid (Below w.heap.size w ((w1.setCell ⟨w.heap.size + 1, 1, none⟩ (.int .i64 a.k.f)).setCell ⟨w.heap.size + 1, 5, none⟩ (.int .i64 a.u))) := (hW.out.trans (hQ1'.out.2.mono (by omega))).trans (hk2.below (fun k _ e => by omega) (Nat.le_trans hW.out.size (by rw [← hBe.out]; exact hBe.out ▸ hQ1'.out.2.size)))
  generalize (w1.setCell ⟨w.heap.size + 1, 1, none⟩ (.int .i64 a.k.f)).setCell ⟨w.heap.size + 1, 5, none⟩ (.int .i64 a.u) = W2 at hB2 hA2 hq2 hbw2 ⊢
  clear a1 a5 b1 b5 f1 f5 hk2 hA1' hB1' hQ1' hBb hA
  have hsz2 : B ≤ W2.heap.size := by have := hq2.out.lt hq2.out.own; omega
  have hpa := hPush_takes hq2.out a ha'.out rfl (by simp)
  have hpb : Hid (∀ w3, PushPost W2 (B + 2) (newS W0) [] a w3 → BoxM w3 (w.heap.size + 1) (asOf a b) ∧ Calls Try.prog 15 #[.pointer (some ⟨B + 2, 0, none⟩), (asOf a b).val] w3 fun e w4 => e = .returned (.int .i64 8) ∧
      Calls Try.prog 11 #[.pointer (some ⟨B + 2, 0, none⟩)] w4 fun e w5 => e = .returned (.int .i64 1) ∧ w4 = w5 ∧ TwiceAt B W2 w4 a 0) := by
    rintro w3 ⟨S3, hq3, hs3⟩
    have hb3 := hs3.belowB (B := B) (fun k e => by have h1 := e.1; have := hBe.out; omega) hsz2
    rw [mg_nil_left] at hq3
    have hm : hasS [a] (asOf a b).k.f (asOf a b).u = true := hasS_iff.2 ⟨a, by simp, rfl, rfl⟩
    refine ⟨(hB2.out).kept hs3.1 (fun e => by have h1 := e.1; have := hBe.out; omega), (hPush_stay hq3 (asOf a b) (asOf_fits ha'.out hb'.out) (.inl hm)).mono ?_⟩
    rintro e w4 ⟨he, hb4⟩
    have hq4 := hq3.below hb4
    have hsz3 : B ≤ w3.heap.size := Nat.le_trans hsz2 hb3.1.size
    refine ⟨by rw [he]; unfold pushC; rw [if_pos hm], (hLen_any hq4).mono ?_⟩
    rintro e w5 ⟨he5, rfl⟩
    exact ⟨he5, rfl, S3, [a], hq4, by simp, by simp, hb3.2, hsz2, hb3.1.trans (hb4.mono hsz3)⟩
  obtain ⟨-, y0, y1, y2, y3, y4, y5, y6⟩ := hA2.out.at
  simp only [Nat.zero_add] at y0 y1 y2 y3 y4 y5 y6
  have hpa' := Lib.hid hpa
  simp only [M.val] at hpa' hpb
  have hstep : Hid (∀ wr k, k < len → k < 100 → TwiceAt B W2 wr a k → ∃ b0 off, sa = some ⟨b0, off, none⟩ ∧ MsgAt wr b0 (off + k * 7) (ms.getD k default) ∧
      Calls Try.prog 15 #[.pointer (some ⟨B + 2, 0, none⟩), (ms.getD k default).val] wr fun e w' => (∃ c : Int, e = .returned (.int .i64 c)) ∧ TwiceAt B W2 w' a (k + 1)) := by
    intro wr k hk h100 hT
    have hBB : Below w.heap.size w wr := by
      obtain ⟨_, _, _, _, _, _, _, hb⟩ := hT
      exact hbw2.out.trans (hb.mono (by omega))
    have hm2 := hms.out.below hBB
    rcases hm2.2.2.2.2 with h0 | ⟨b0, off, e, hm⟩
    · omega
    · exact ⟨b0, off, e, hm k hk, twice_step hT _ (hfit.out _ (by
        have : k < ms.length := by rw [hlen.out]; exact hk
        rw [List.getD_eq_getElem?_getD, List.getElem?_eq_getElem this]
        exact List.getElem_mem this))⟩
  have hend : Hid (∀ wr k, k ≤ 100 → TwiceAt B W2 wr a k → MsgAt wr w.heap.size 0 a ∧ Calls Try.prog 18 #[.pointer (some ⟨B + 2, 0, none⟩), .int .i64 a.k.f, .int .i64 a.u] wr fun e w1 => e = .returned (.tuple #[a.val, .int .i64 0]) ∧ ∀ w2, Below w1.heap.size w1 w2 →
      MsgAt w2 w.heap.size 0 a ∧ MsgAt w2 (w.heap.size + 1) 0 (asOf a b) ∧ Calls Try.prog 15 #[.pointer (some ⟨B + 2, 0, none⟩), (asOf a b).val] w2 fun e w3 => e = .returned (.int .i64 0) ∧ ∀ w4, Below w3.heap.size w3 w4 →
        MsgAt w4 w.heap.size 0 a ∧ Calls Try.prog 15 #[.pointer (some ⟨B + 2, 0, none⟩), a.val] w4 fun e w5 => e = .returned (.int .i64 8) ∧ Below w.heap.size w w5) := by
    intro wr k hk hT
    have hBr : Below B W2 wr := by obtain ⟨_, _, _, _, _, _, _, hb⟩ := hT; exact hb
    have key : ∀ W, Below B W2 W → MsgAt W w.heap.size 0 a ∧ MsgAt W (w.heap.size + 1) 0 (asOf a b) := fun W hW =>
      ⟨(hA2.out.kept (S := fun k => B ≤ k) ⟨hW.os, hW.tape, hW.output, hW.size, fun k _ hn => hW.block k (by omega)⟩ (by omega)).at,
        (hB2.out.kept (S := fun k => B ≤ k) ⟨hW.os, hW.tape, hW.output, hW.size, fun k _ hn => hW.block k (by omega)⟩ (by omega)).at⟩
    refine ⟨(key wr hBr).1, (twice_end (b := b) hT ha'.out hb'.out hk).mono ?_⟩
    rintro e w1 ⟨he, hb1, h1⟩
    refine ⟨he, fun w2 hw2 => ?_⟩
    have hb2 := hb1.trans (hw2.mono (Nat.le_trans hsz2 hb1.size))
    refine ⟨(key w2 hb2).1, (key w2 hb2).2, (h1 w2 hw2).mono ?_⟩
    rintro e w3 ⟨he3, hb3, h3⟩
    refine ⟨he3, fun w4 hw4 => ?_⟩
    have hb4 := hb3.trans (hw4.mono (Nat.le_trans hsz2 hb3.size))
    refine ⟨(key w4 hb4).1, (h3 w4 hw4).mono ?_⟩
    rintro e w5 ⟨he5, hb5⟩
    exact ⟨he5, hbw2.out.trans (hb5.mono (by omega))⟩
  have hab : Hid (∀ W, BoxM W (w.heap.size + 1) (asOf a b) → MsgAt W (w.heap.size + 1) 0 (asOf a b)) := fun W hW => hW.at
  generalize asOf a b = c at *
  simp only [M.val] at hend
  clear hpa hB2 hA2 hq2 hW hsz ha' hb' hbw2 hfit hlen hBn
  have hl1 : len ≤ 9223372036854775807 := by omega
  go_wp2_with (first
    | (go_at_call 15; (with_reducible refine hpa'.out.mono ?_); rintro e w3 ⟨rfl, h3⟩; have hb3 := hpb.out w3 h3; clear h3; obtain ⟨hb3, hb3c⟩ := hb3; have hb3x := hab.out _ hb3; obtain ⟨-, z0, z1, z2, z3, z4, z5, z6⟩ := hb3x; simp only [Nat.zero_add] at z0 z1 z2 z3 z4 z5 z6; clear hb3)
    | (go_at_call 15; (with_reducible refine hb3c.mono ?_); rintro e w4 ⟨rfl, hl4⟩; clear z0 z1 z2 z3 z4 z5 z6)
    | (go_at_call 11; (with_reducible refine hl4.mono ?_); rintro e w5 ⟨rfl, rfl, hT5⟩; have hT5' := Lib.hid hT5; clear hT5))
  go_loopw [11] (fun s8 wr => ∃ k : Nat, k ≤ len ∧ k ≤ 100 ∧ s8 = .int .i64 k ∧ Hid (TwiceAt B W2 wr a k)) (fun s8 _ => len - (intOf s8).toNat)
  case atStart => exact ⟨0, Nat.zero_le _, Nat.zero_le _, rfl, hT5'⟩
  case round =>
    obtain ⟨k, hk, hk1, rfl, hT⟩ := hrel
    clear hT5' hpb hpa' y0 y1 y2 y3 y4 y5 y6
    by_cases hkk : k < len ∧ k < 100
    · obtain ⟨hkl, hk3⟩ := hkk
      have hz : (k : Int) < (len : Int) := by omega
      have hz2 : (k : Int) < 100 := by omega
      obtain ⟨b0, off, rfl, hmk, hps⟩ := hstep.out wr k hkl hk3 hT.out
      generalize ms.getD k default = m at hmk hps
      obtain ⟨-, x0, x1, x2, x3, x4, x5, x6⟩ := hmk
      simp only [M.val] at hps
      clear hend hstep hT
      go_wp2_with (go_at_call 15; refine hps.mono ?_; rintro e w6 ⟨⟨c6, rfl⟩, hT6⟩; have hT6' := Lib.hid hT6; clear hT6)
      go_roundw
      case rel => exact ⟨k + 1, by omega, by omega, by go_num, hT6'⟩
      case measure => simp [intOf]; omega
    · obtain ⟨hma, hce⟩ := hend.out wr k hk1 hT.out
      have hce' := Lib.hid hce
      obtain ⟨-, -, y1, -, -, -, y5, -⟩ := hma
      simp only [Nat.zero_add] at y1 y5
      have hzz : (¬ (k : Int) < (len : Int)) ∨ ((k : Int) < (len : Int) ∧ ¬ (k : Int) < 100) := by omega
      clear hce hend hstep hT hab
      rcases hzz with hz | ⟨hz, hz2⟩
      all_goals
        go_upto_region 13 with (go_at_call 18; refine hce'.out.mono ?_; rintro e w6 ⟨rfl, h6⟩; have h6' := Lib.hid h6; clear h6)
        have h7 := h6'.out (w6.alloc (.cells #[.int .i64 a.k.t, .int .i64 a.k.f, .int .i64 a.k.s, .int .i64 a.to, .int .i64 a.v, .int .i64 a.u, .bool a.anti] 34)) ((Below.refl _ _).alloc (Nat.le_refl _) _)
        have hx9 : MsgAt (w6.alloc (.cells #[.int .i64 a.k.t, .int .i64 a.k.f, .int .i64 a.k.s, .int .i64 a.to, .int .i64 a.v, .int .i64 a.u, .bool a.anti] 34)) w6.heap.size 0 a := (BoxM.mk w6 a).at
        clear h6'
        generalize w6.alloc (.cells #[.int .i64 a.k.t, .int .i64 a.k.f, .int .i64 a.k.s, .int .i64 a.to, .int .i64 a.v, .int .i64 a.u, .bool a.anti] 34) = W7 at h7 hx9 ⊢
        obtain ⟨h7a, h7c, h7p⟩ := h7
        have h7p' := Lib.hid h7p
        clear h7p
        obtain ⟨-, x0, x1, x2, x3, x4, x5, x6⟩ := hx9
        obtain ⟨-, u0, u1, u2, u3, u4, u5, u6⟩ := h7a
        obtain ⟨-, z0, z1, z2, z3, z4, z5, z6⟩ := h7c
        simp only [Nat.zero_add] at x0 x1 x2 x3 x4 x5 x6 u0 u1 u2 u3 u4 u5 u6 z0 z1 z2 z3 z4 z5 z6
        go_wp2_with (first
          | (go_at_call 15; (with_reducible refine h7p'.out.mono ?_); rintro e w8 ⟨rfl, h8⟩; have h8b := h8 w8 (Below.refl _ _); clear h8; obtain ⟨h8a, h8p⟩ := h8b; obtain ⟨-, v0, v1, v2, v3, v4, v5, v6⟩ := h8a; simp only [Nat.zero_add] at v0 v1 v2 v3 v4 v5 v6)
          | (go_at_call 15; (with_reducible refine h8p.mono ?_); rintro e w9 ⟨rfl, hb9⟩; have hb9' := Lib.hid hb9; clear hb9))
        go_ret
        refine ⟨rfl, hb9'.out⟩
set_option maxHeartbeats 1000000 in
theorem lawLadderTwice (Wd : Int) (hWf : (Lit.int .i64 Wd).wf = true) (a : M) (ha : a.fits) (b : M) (hb : b.fits) {w : World} {sa : Option Addr} {len cap : Nat} {ms : List M} (h : Msgs w sa len cap ms) (hr : len * 56 ≤ 140737488351232) :
    Calls Try.prog 7 #[.int .i64 Wd, a.val, b.val, .slice sa len cap] w fun e w' => e = .returned (.bool true) ∧ Below w.heap.size w w' := by
  by_cases hWd : 1 ≤ Wd ∧ Wd ≤ 16384
  · exact lawLadderTwice_wide Wd hWf hWd a ha b hb h hr
  · rcases (by omega : Wd < 1 ∨ 16384 < Wd) with hW1 | hW1
    · have hWx := hW1
      have hW : Hid (Below w.heap.size w ((w.alloc (.cells a.cells 34)).alloc (.cells b.cells 34))) := ((Below.refl _ w).alloc (Nat.le_refl _) _).alloc (by simp) _
      have hnew := fun w => hNew_no w (W := Wd) (by omega)
      clear h hWd hWf ha hb hr
      simp only [M.val, M.cells] at hW ⊢
      go_enter Try.func7, Try.ntmps7
      go_upto_region 1 with (fail)
      generalize (w.alloc (.cells #[.int .i64 a.k.t, .int .i64 a.k.f, .int .i64 a.k.s, .int .i64 a.to, .int .i64 a.v, .int .i64 a.u, .bool a.anti] 34)).alloc (.cells #[.int .i64 b.k.t, .int .i64 b.k.f, .int .i64 b.k.s, .int .i64 b.to, .int .i64 b.v, .int .i64 b.u, .bool b.anti] 34) = W0 at hW ⊢
      have haw := awake8_any W0
      go_wp2_with (first
        | (go_at_call 8; refine (hnew _).mono ?_; rintro e w1 ⟨rfl, rfl⟩)
        | (go_at_call 14; refine haw.mono ?_; rintro e w2 ⟨rfl, hb2⟩; have hb2' := Lib.hid hb2; clear hb2))
      go_ret
      exact ⟨rfl, hW.out.trans (hb2'.out.mono hW.out.size)⟩
    · have hWx : ¬ Wd < 1 := by omega
      have hW : Hid (Below w.heap.size w ((w.alloc (.cells a.cells 34)).alloc (.cells b.cells 34))) := ((Below.refl _ w).alloc (Nat.le_refl _) _).alloc (by simp) _
      have hnew := fun w => hNew_no w (W := Wd) (by omega)
      clear h hWd hWf ha hb hr
      simp only [M.val, M.cells] at hW ⊢
      go_enter Try.func7, Try.ntmps7
      go_upto_region 1 with (fail)
      generalize (w.alloc (.cells #[.int .i64 a.k.t, .int .i64 a.k.f, .int .i64 a.k.s, .int .i64 a.to, .int .i64 a.v, .int .i64 a.u, .bool a.anti] 34)).alloc (.cells #[.int .i64 b.k.t, .int .i64 b.k.f, .int .i64 b.k.s, .int .i64 b.to, .int .i64 b.v, .int .i64 b.u, .bool b.anti] 34) = W0 at hW ⊢
      have haw := awake8_any W0
      go_wp2_with (first
        | (go_at_call 8; refine (hnew _).mono ?_; rintro e w1 ⟨rfl, rfl⟩)
        | (go_at_call 14; refine haw.mono ?_; rintro e w2 ⟨rfl, hb2⟩; have hb2' := Lib.hid hb2; clear hb2))
      go_ret
      exact ⟨rfl, hW.out.trans (hb2'.out.mono hW.out.size)⟩
end Go.Proofs.Ytcfpfbemmklbaaa
