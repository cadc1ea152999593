/-
  The law that there is one message of a sending.
-/
import Derived.Test.YtbalbachmeiehaaHN
namespace Go.Proofs.Ytbalbachmeiehaa
open Go.ChangeShapes Go.WideShapes Go.ChangeAt Go.Shelf Go.RowKit Go.Lib Go.Sort Go.Deep Go.Maps
set_option linter.unusedVariables false

/-- b as a message of a's sending. -/
def asOf (a b : M) : M := ⟨⟨b.k.t, a.k.f, b.k.s⟩, b.to, b.v, a.u, b.anti⟩
theorem asOf_fits {a b : M} (ha : a.fits) (hb : b.fits) : (asOf a b).fits := ⟨⟨hb.1.1, ha.1.2.1, hb.1.2.2⟩, hb.2.1, hb.2.2.1, ha.2.2.2⟩
theorem BoxM.asOf {w : World} {B : Nat} {b : M} (h : BoxM w B b) (a : M) : BoxM ((w.setCell ⟨B, 1, none⟩ (.int .i64 a.k.f)).setCell ⟨B, 5, none⟩ (.int .i64 a.u)) B (asOf a b) := by
  unfold BoxM at h ⊢
  simp [World.setCell, Array.getElem?_modify, h, M.cells, Go.Proofs.Ytbalbachmeiehaa.asOf]
theorem hasS_self {T : List M} {m : M} (h : m ∈ T) : hasS T m.k.f m.u = true := hasS_iff.2 ⟨m, h, rfl, rfl⟩
theorem pushT_mem {T : List M} {m x : M} (h : x ∈ T) : x ∈ pushT T m := by
  unfold pushT
  split
  · exact h
  · split
    · exact h
    · exact (mg_perm T [m]).mem_iff.2 (List.mem_append_left _ h)
theorem pushT_length (T : List M) (m : M) : (pushT T m).length ≤ T.length + 1 := by
  unfold pushT
  split
  · omega
  · split
    · omega
    · rw [mg_length]; simp
/-- In a list of unlike ones, the one of a sending is the one. -/
theorem unlike_eq {T : List M} (hU : Unlike T) {a : M} (ha : a ∈ T) {i : Nat} (hi : i < T.length) (h1 : T[i].k.f = a.k.f) (h2 : T[i].u = a.u) : T[i] = a := by
  obtain ⟨j, hj, rfl⟩ := List.getElem_of_mem ha
  rcases Nat.lt_trichotomy i j with h | rfl | h
  · exact absurd ⟨h1, h2⟩ (List.pairwise_iff_getElem.1 hU i j hi hj h)
  · rfl
  · exact absurd ⟨h1.symm, h2.symm⟩ (List.pairwise_iff_getElem.1 hU j i hj hi h)

/-- What stands behind k rounds. -/
def TwiceAt (B : Nat) (W wr : World) (a : M) (k : Nat) : Prop :=
  ∃ v T, QAt wr (B + 3) (B + 2) B (B + 1) (k + 2) v T ∧ a ∈ T ∧ T.length ≤ k + 1 ∧ Below B W wr
theorem QStep.belowB {w w' : World} {B n : Nat} {v v' : Value} {T : List M} (h : QStep w w' B (B + 1) v v') (hq : QAt w (B + 3) (B + 2) B (B + 1) n v T) : Below B w w' := by
  obtain ⟨l, hl, _⟩ := hq.t
  refine h.1.below (fun k _ e => ?_) (by have := hl.bd; omega)
  rcases e with e | e | e
  · omega
  · omega
  · have := (hl.own.lt k e).1; omega
theorem twice_step {B : Nat} {W wr : World} {a : M} {k : Nat} (h : TwiceAt B W wr a k) (m : M) (hm : m.fits) (hk : k < 100) :
    Calls Try.prog 15 #[.pointer (some ⟨B + 2, 0, none⟩), m.val] wr fun e w' => (∃ c : Int, e = .returned (.int .i64 c)) ∧ TwiceAt B W w' a (k + 1) := by
  obtain ⟨v, T, hq, ha, hl, hb⟩ := h
  refine (hPush_any hq m hm (by unfold maxLen; omega)).mono ?_
  rintro e w' ⟨he, v', hq', hs⟩
  exact ⟨⟨_, he⟩, v', _, hq', pushT_mem ha, by have := pushT_length T m; omega, hb.trans (hs.belowB hq)⟩
/-- The last three calls. -/
theorem twice_end {B : Nat} {W wr : World} {a b : M} {k : Nat} (h : TwiceAt B W wr a k) (ha : a.fits) (hb : b.fits) (hk : k ≤ 100) :
    Calls Try.prog 18 #[.pointer (some ⟨B + 2, 0, none⟩), .int .i64 a.k.f, .int .i64 a.u] wr fun e w1 => e = .returned (.tuple #[a.val, .int .i64 0]) ∧ Below B W w1 ∧ ∀ w2, Below w1.heap.size w1 w2 →
      Calls Try.prog 15 #[.pointer (some ⟨B + 2, 0, none⟩), (asOf a b).val] w2 fun e w3 => e = .returned (.int .i64 0) ∧ Below B W w3 ∧ ∀ w4, Below w3.heap.size w3 w4 →
        Calls Try.prog 15 #[.pointer (some ⟨B + 2, 0, none⟩), a.val] w4 fun e w5 => e = .returned (.int .i64 8) ∧ Below B W w5 := by
  obtain ⟨v, T, hq, hm, hl, hB⟩ := h
  refine (hCut_some hq ha.1.2.1 ha.2.2.2 (hasS_self hm)).mono ?_
  rintro e w1 ⟨m, he, i, hi, e1, e2, e3, v1, hq1, hs1⟩
  have ea : T[i] = a := unlike_eq hq.u hm hi (by rw [e1]; exact e2) (by rw [e1]; exact e3)
  obtain rfl : m = a := e1.symm.trans ea
  have hB1 := hB.trans (hs1.belowB hq)
  have hsz1 : B ≤ w1.heap.size := by
    obtain ⟨l, hl', _⟩ := hq1.t
    have := hl'.bd
    omega
  refine ⟨he, hB1, fun w2 hb2 => ?_⟩
  have hn : hasS (T.eraseIdx i) m.k.f m.u = false := by
    have hp : (m :: T.eraseIdx i).Perm T := by
      have := erase_perm hi
      rwa [ea] at this
    rw [hasS_erase hp hq.u]
    simp
  have hll : (T.eraseIdx i).length ≤ 101 := by
    have := List.length_eraseIdx_le T i
    omega
  have hq2 := hq1.below hb2
  refine (hPush_takes hq2 (asOf m b) (asOf_fits ha hb) hn (by omega) (by unfold maxLen; omega)).mono ?_
  rintro e w3 ⟨he3, v3, hq3, hs3⟩
  have hB3 := (hB1.trans (hb2.mono hsz1)).trans (hs3.belowB hq2)
  refine ⟨he3, hB3, fun w4 hb4 => ?_⟩
  have hq4 := hq3.below hb4
  have hmem : hasS (mg ltM (T.eraseIdx i) [asOf m b]) m.k.f m.u = true := hasS_iff.2 ⟨asOf m b, (mg_perm _ _).mem_iff.2 (by simp), rfl, rfl⟩
  refine (hPush_stay hq4 m ha (.inl hmem)).mono ?_
  rintro e w5 ⟨he5, hb5⟩
  have hsz3 : B ≤ w3.heap.size := by
    obtain ⟨l, hl', _⟩ := hq3.t
    have := hl'.bd
    omega
  refine ⟨?_, (hB3.trans (hb4.mono hsz3)).trans (hb5.mono (Nat.le_trans hsz3 hb4.size))⟩
  rw [he5]
  unfold pushC
  rw [if_pos hmem]

set_option maxHeartbeats 4000000 in
set_option maxRecDepth 100000 in
theorem lawHeapTwice (a : M) (ha : a.fits) (b : M) (hb : b.fits) {w : World} {sa : Option Addr} {len cap : Nat} {ms : List M} (h : Msgs w sa len cap ms) (hr : len * 56 ≤ 140737488351232) :
    Calls Try.prog 7 #[a.val, b.val, .slice sa len cap] w fun e w' => e = .returned (.bool true) ∧ Below w.heap.size w w' := by
  have mixed := mixed
  have hcapI : cap ≤ 9223372036854775807 ∧ len ≤ cap := by have h1 := h.2.1; have h2 := h.2.2.1; unfold maxLen at h2; omega
  obtain ⟨hcap1, hcap2⟩ := hcapI
  have hfit := Lib.hid h.2.2.2.1
  have hms := Lib.hid h
  have hlen := Lib.hid h.1
  have hW : Hid (Below w.heap.size w ((w.alloc (.cells a.cells 31)).alloc (.cells b.cells 31))) := ((Below.refl _ w).alloc (Nat.le_refl _) _).alloc (by simp) _
  have hA : Hid (BoxM ((w.alloc (.cells a.cells 31)).alloc (.cells b.cells 31)) w.heap.size a) := (BoxM.mk w a).kept (S := fun _ => False) (.of_below ((Below.refl _ _).alloc (Nat.le_refl _) _)) (fun e => e)
  have hBb : Hid (BoxM ((w.alloc (.cells a.cells 31)).alloc (.cells b.cells 31)) (w.heap.size + 1) b) := by
    have := BoxM.mk (w.alloc (.cells a.cells 31)) b
    show BoxM _ _ _
    simpa using this
  have hsz : Hid (((w.alloc (.cells a.cells 31)).alloc (.cells b.cells 31)).heap.size = w.heap.size + 2) := by show _ = _; simp
  have ha' := Lib.hid ha
  have hb' := Lib.hid hb
  clear h ha hb
  have haa := fun w => eqlM a a w
  simp only [decide_true, M.val] at haa
  simp only [M.val, M.cells] at hW hA hBb hsz ⊢
  go_enter Try.func7, Try.ntmps7
  go_upto_region 1 with (fail)
  generalize (w.alloc (.cells #[.int .i64 a.k.t, .int .i64 a.k.f, .int .i64 a.k.s, .int .i64 a.to, .int .i64 a.v, .int .i64 a.u, .bool a.anti] 31)).alloc (.cells #[.int .i64 b.k.t, .int .i64 b.k.f, .int .i64 b.k.s, .int .i64 b.to, .int .i64 b.v, .int .i64 b.u, .bool b.anti] 31) = W0 at hW hA hBb hsz ⊢
  have hnew := hNew_any W0
  obtain ⟨B, hB⟩ : ∃ B, B = W0.heap.size := ⟨_, rfl⟩
  rw [← hB] at hnew hsz
  have hBe := Lib.hid hB
  clear hB
  go_upto_region 4 with (go_at_call 8; refine hnew.mono ?_; rintro e w1 ⟨rfl, hQ1⟩; have hQ1' := Lib.hid hQ1; clear hQ1)
  have hA1 := hA.out.kept (S := fun _ => False) (.of_below (hBe.out ▸ hQ1'.out.2)) (fun e => e)
  have hB1 := hBb.out.kept (S := fun _ => False) (.of_below (hBe.out ▸ hQ1'.out.2)) (fun e => e)
  obtain ⟨-, -, a1, -, -, -, a5, -⟩ := hA1.at
  obtain ⟨-, -, b1, -, -, -, b5, -⟩ := hB1.at
  simp only [Nat.zero_add] at a1 a5 b1 b5
  have f1 := hB1.fz 1
  have f5 := hB1.fz 5
  have hA1' := Lib.hid hA1
  have hB1' := Lib.hid hB1
  clear hA1 hB1 hnew
  go_upto_region 6 with (fail)
  have hk2 : KeptOff (fun k => k = w.heap.size + 1) w1 ((w1.setCell ⟨w.heap.size + 1, 1, none⟩ (.int .i64 a.k.f)).setCell ⟨w.heap.size + 1, 5, none⟩ (.int .i64 a.u)) := (KeptOff.set w1 ⟨w.heap.size + 1, 1, none⟩ _).trans (KeptOff.set _ ⟨w.heap.size + 1, 5, none⟩ _)
  have hB2 := Lib.hid (hB1'.out.asOf a)
  have hA2 := Lib.hid (hA1'.out.kept hk2 (by omega))
  have hBn := hsz.out
  have hq2 := Lib.hid (hQ1'.out.1.kept hk2 (by omega) (by omega) (by omega) (fun k hk e => by cases hk))
  have hbw2 : Hid (Below w.heap.size w ((w1.setCell ⟨w.heap.size + 1, 1, none⟩ (.int .i64 a.k.f)).setCell ⟨w.heap.size + 1, 5, none⟩ (.int .i64 a.u))) := (hW.out.trans (hQ1'.out.2.mono (by omega))).trans (hk2.below (fun k _ e => by omega) (Nat.le_trans hW.out.size (by rw [← hBe.out]; exact hBe.out ▸ hQ1'.out.2.size)))
  generalize (w1.setCell ⟨w.heap.size + 1, 1, none⟩ (.int .i64 a.k.f)).setCell ⟨w.heap.size + 1, 5, none⟩ (.int .i64 a.u) = W2 at hB2 hA2 hq2 hbw2 ⊢
  clear a1 a5 b1 b5 f1 f5 hk2 hA1' hB1' hQ1' hBb hA
  have hpa := hPush_takes hq2.out a ha'.out rfl (by simp) (by unfold maxLen; omega)
  have hpb : Hid (∀ w3, (∃ v', QAt w3 (B + 3) (B + 2) B (B + 1) 1 v' (mg ltM [] [a]) ∧ QStep W2 w3 B (B + 1) (.slice none 0 0) v') → BoxM w3 (w.heap.size + 1) (asOf a b) ∧ Calls Try.prog 15 #[.pointer (some ⟨B + 2, 0, none⟩), (asOf a b).val] w3 fun e w4 => e = .returned (.int .i64 8) ∧
      Calls Try.prog 11 #[.pointer (some ⟨B + 2, 0, none⟩)] w4 fun e w5 => e = .returned (.int .i64 1) ∧ w4 = w5 ∧ TwiceAt B W2 w4 a 0) := by
    rintro w3 ⟨v', hq3, hs3⟩
    have hb3 := hs3.belowB hq2.out
    rw [mg_nil_left] at hq3
    have hm : hasS [a] (asOf a b).k.f (asOf a b).u = true := hasS_iff.2 ⟨a, by simp, rfl, rfl⟩
    refine ⟨(hB2.out).kept hs3.1 (fun e => by rcases e with e | e | e; · omega
                                              · omega
                                              · cases e), (hPush_stay hq3 (asOf a b) (asOf_fits ha'.out hb'.out) (.inl hm)).mono ?_⟩
    rintro e w4 ⟨he, hb4⟩
    have hq4 := hq3.below hb4
    have hsz3 : B ≤ w3.heap.size := by
      obtain ⟨l, hl', _⟩ := hq3.t
      have := hl'.bd
      omega
    refine ⟨by rw [he]; unfold pushC; rw [if_pos hm], (hLen_any hq4).mono ?_⟩
    rintro e w5 ⟨he5, rfl⟩
    exact ⟨he5, rfl, v', [a], hq4.mono (by omega), by simp, by simp, hb3.trans (hb4.mono hsz3)⟩
  obtain ⟨-, y0, y1, y2, y3, y4, y5, y6⟩ := hA2.out.at
  simp only [Nat.zero_add] at y0 y1 y2 y3 y4 y5 y6
  have hpa' := Lib.hid hpa
  simp only [M.val] at hpa' hpb
  have hstep : Hid (∀ wr k, k < len → k < 100 → TwiceAt B W2 wr a k → ∃ b0 off, sa = some ⟨b0, off, none⟩ ∧ MsgAt wr b0 (off + k * 7) (ms.getD k default) ∧
      Calls Try.prog 15 #[.pointer (some ⟨B + 2, 0, none⟩), (ms.getD k default).val] wr fun e w' => (∃ c : Int, e = .returned (.int .i64 c)) ∧ TwiceAt B W2 w' a (k + 1)) := by
    intro wr k hk h100 hT
    have hBB : Below w.heap.size w wr := by
      obtain ⟨_, _, _, _, _, hb⟩ := hT
      exact hbw2.out.trans (hb.mono (by omega))
    have hm2 := hms.out.below hBB
    rcases hm2.2.2.2.2 with h0 | ⟨b0, off, e, hm⟩
    · omega
    · exact ⟨b0, off, e, hm k hk, twice_step hT _ (hfit.out _ (by
        have : k < ms.length := by rw [hlen.out]; exact hk
        rw [List.getD_eq_getElem?_getD, List.getElem?_eq_getElem this]
        exact List.getElem_mem this)) h100⟩
  have hend : Hid (∀ wr k, k ≤ 100 → TwiceAt B W2 wr a k → MsgAt wr w.heap.size 0 a ∧ Calls Try.prog 18 #[.pointer (some ⟨B + 2, 0, none⟩), .int .i64 a.k.f, .int .i64 a.u] wr fun e w1 => e = .returned (.tuple #[a.val, .int .i64 0]) ∧ ∀ w2, Below w1.heap.size w1 w2 →
      MsgAt w2 w.heap.size 0 a ∧ MsgAt w2 (w.heap.size + 1) 0 (asOf a b) ∧ Calls Try.prog 15 #[.pointer (some ⟨B + 2, 0, none⟩), (asOf a b).val] w2 fun e w3 => e = .returned (.int .i64 0) ∧ ∀ w4, Below w3.heap.size w3 w4 →
        MsgAt w4 w.heap.size 0 a ∧ Calls Try.prog 15 #[.pointer (some ⟨B + 2, 0, none⟩), a.val] w4 fun e w5 => e = .returned (.int .i64 8) ∧ Below w.heap.size w w5) := by
    intro wr k hk hT
    have hBr : Below B W2 wr := by obtain ⟨_, _, _, _, _, hb⟩ := hT; exact hb
    have hsz2 : B ≤ W2.heap.size := by
      obtain ⟨l, hl', _⟩ := hq2.out.t
      have := hl'.bd
      omega
    have key : ∀ W, Below B W2 W → MsgAt W w.heap.size 0 a ∧ MsgAt W (w.heap.size + 1) 0 (asOf a b) := fun W hW =>
      ⟨(hA2.out.kept (S := fun k => B ≤ k) ⟨hW.os, hW.tape, hW.output, hW.size, fun k _ hn => hW.block k (by omega)⟩ (by omega)).at,
        (hB2.out.kept (S := fun k => B ≤ k) ⟨hW.os, hW.tape, hW.output, hW.size, fun k _ hn => hW.block k (by omega)⟩ (by omega)).at⟩
    refine ⟨(key wr hBr).1, (twice_end (b := b) hT ha'.out hb'.out hk).mono ?_⟩
    rintro e w1 ⟨he, hb1, h1⟩
    refine ⟨he, fun w2 hw2 => ?_⟩
    have hb2 := hb1.trans (hw2.mono (Nat.le_trans hsz2 hb1.size))
    refine ⟨(key w2 hb2).1, (key w2 hb2).2, (h1 w2 hw2).mono ?_⟩
    rintro e w3 ⟨he3, hb3, h3⟩
    refine ⟨he3, fun w4 hw4 => ?_⟩
    have hb4 := hb3.trans (hw4.mono (Nat.le_trans hsz2 hb3.size))
    refine ⟨(key w4 hb4).1, (h3 w4 hw4).mono ?_⟩
    rintro e w5 ⟨he5, hb5⟩
    exact ⟨he5, hbw2.out.trans (hb5.mono (by omega))⟩
  have hab : Hid (∀ W, BoxM W (w.heap.size + 1) (asOf a b) → MsgAt W (w.heap.size + 1) 0 (asOf a b)) := fun W hW => hW.at
  generalize asOf a b = c at *
  simp only [M.val] at hend
  clear hpa hB2 hA2 hq2 hW hsz ha' hb' hbw2 hfit hlen hBn
  have hl1 : len ≤ 9223372036854775807 := by omega
  go_wp2_with (first
    | (go_at_call 15; (with_reducible refine hpa'.out.mono ?_); rintro e w3 ⟨rfl, h3⟩; have hb3 := hpb.out w3 h3; clear h3; obtain ⟨hb3, hb3c⟩ := hb3; have hb3x := hab.out _ hb3; obtain ⟨-, z0, z1, z2, z3, z4, z5, z6⟩ := hb3x; simp only [Nat.zero_add] at z0 z1 z2 z3 z4 z5 z6; clear hb3)
    | (go_at_call 15; (with_reducible refine hb3c.mono ?_); rintro e w4 ⟨rfl, hl4⟩; clear z0 z1 z2 z3 z4 z5 z6)
    | (go_at_call 11; (with_reducible refine hl4.mono ?_); rintro e w5 ⟨rfl, rfl, hT5⟩; have hT5' := Lib.hid hT5; clear hT5))
  go_loopw [8] (fun s8 wr => ∃ k : Nat, k ≤ len ∧ k ≤ 100 ∧ s8 = .int .i64 k ∧ Hid (TwiceAt B W2 wr a k)) (fun s8 _ => len - (intOf s8).toNat)
  case atStart => exact ⟨0, Nat.zero_le _, Nat.zero_le _, rfl, hT5'⟩
  case round =>
    obtain ⟨k, hk, hk1, rfl, hT⟩ := hrel
    clear hT5' hpb hpa' y0 y1 y2 y3 y4 y5 y6
    by_cases hkk : k < len ∧ k < 100
    · obtain ⟨hkl, hk3⟩ := hkk
      have hz : (k : Int) < (len : Int) := by omega
      have hz2 : (k : Int) < 100 := by omega
      obtain ⟨b0, off, rfl, hmk, hps⟩ := hstep.out wr k hkl hk3 hT.out
      generalize ms.getD k default = m at hmk hps
      obtain ⟨-, x0, x1, x2, x3, x4, x5, x6⟩ := hmk
      simp only [M.val] at hps
      clear hend hstep hT
      go_wp2_with (go_at_call 15; refine hps.mono ?_; rintro e w6 ⟨⟨c6, rfl⟩, hT6⟩; have hT6' := Lib.hid hT6; clear hT6)
      go_roundw
      case rel => exact ⟨k + 1, by omega, by omega, by go_num, hT6'⟩
      case measure => simp [intOf]; omega
    · obtain ⟨hma, hce⟩ := hend.out wr k hk1 hT.out
      have hce' := Lib.hid hce
      obtain ⟨-, -, y1, -, -, -, y5, -⟩ := hma
      simp only [Nat.zero_add] at y1 y5
      have hzz : (¬ (k : Int) < (len : Int)) ∨ ((k : Int) < (len : Int) ∧ ¬ (k : Int) < 100) := by omega
      clear hce hend hstep hT hab
      rcases hzz with hz | ⟨hz, hz2⟩
      all_goals
        go_upto_region 13 with (go_at_call 18; refine hce'.out.mono ?_; rintro e w6 ⟨rfl, h6⟩; have h6' := Lib.hid h6; clear h6)
        have h7 := h6'.out (w6.alloc (.cells #[.int .i64 a.k.t, .int .i64 a.k.f, .int .i64 a.k.s, .int .i64 a.to, .int .i64 a.v, .int .i64 a.u, .bool a.anti] 31)) ((Below.refl _ _).alloc (Nat.le_refl _) _)
        have hx9 : MsgAt (w6.alloc (.cells #[.int .i64 a.k.t, .int .i64 a.k.f, .int .i64 a.k.s, .int .i64 a.to, .int .i64 a.v, .int .i64 a.u, .bool a.anti] 31)) w6.heap.size 0 a := (BoxM.mk w6 a).at
        clear h6'
        generalize w6.alloc (.cells #[.int .i64 a.k.t, .int .i64 a.k.f, .int .i64 a.k.s, .int .i64 a.to, .int .i64 a.v, .int .i64 a.u, .bool a.anti] 31) = W7 at h7 hx9 ⊢
        obtain ⟨h7a, h7c, h7p⟩ := h7
        have h7p' := Lib.hid h7p
        clear h7p
        obtain ⟨-, x0, x1, x2, x3, x4, x5, x6⟩ := hx9
        obtain ⟨-, u0, u1, u2, u3, u4, u5, u6⟩ := h7a
        obtain ⟨-, z0, z1, z2, z3, z4, z5, z6⟩ := h7c
        simp only [Nat.zero_add] at x0 x1 x2 x3 x4 x5 x6 u0 u1 u2 u3 u4 u5 u6 z0 z1 z2 z3 z4 z5 z6
        go_wp2_with (first
          | (go_at_call 15; (with_reducible refine h7p'.out.mono ?_); rintro e w8 ⟨rfl, h8⟩; have h8b := h8 w8 (Below.refl _ _); clear h8; obtain ⟨h8a, h8p⟩ := h8b; obtain ⟨-, v0, v1, v2, v3, v4, v5, v6⟩ := h8a; simp only [Nat.zero_add] at v0 v1 v2 v3 v4 v5 v6)
          | (go_at_call 15; (with_reducible refine h8p.mono ?_); rintro e w9 ⟨rfl, hb9⟩; have hb9' := Lib.hid hb9; clear hb9))
        go_ret
        refine ⟨rfl, hb9'.out⟩
end Go.Proofs.Ytbalbachmeiehaa
