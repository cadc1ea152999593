
/-
  The law of the least time.
-/
import Derived.Test.YtjbammgnkegecaaKL
namespace Go.Proofs.Ytjbammgnkegecaa
open Go.ChangeShapes Go.WideShapes Go.ChangeAt Go.Shelf Go.RowKit Go.Lib Go.Sort Go.Deep
set_option linter.unusedVariables false
set_option maxRecDepth 4000

/-- What stands between two rounds. -/
def LeastI (w : World) (hb i : Nat) (want : Int) (wr : World) : Prop := ∃ S L, Fresh w wr hb S ⟨0, 0, 1024, false⟩ L ∧ want = leastT L ∧ L.length ≤ i
/-- A round's parcel. -/
def lp (z : Int) (i : Nat) : Pc := ⟨⟨⟨z, 0, 0⟩, 0, 0, (i : Int), false⟩, 0⟩
theorem putC_least (L : List Pc) (z : Int) (i : Nat) (hl : L.length < 500) : putC ⟨0, 0, 1024, false⟩ L.length (lp z i) = if chkM (lp z i).m = 0 then 0 else 1 := by
  unfold putC
  by_cases h : chkM (lp z i).m = 0
  · rw [if_pos h, if_neg (fun e => by rcases e with e | e | e <;> first | exact e h | exact e rfl), if_neg (by simp only; omega)]
  · rw [if_neg h, if_pos (.inl h)]
theorem LeastI.least {w wr : World} {hb i : Nat} {want : Int} (h : LeastI w hb i want wr) (hi : i < 100000) : Calls Try.prog 19 #[.pointer (some ⟨hb, 0, none⟩)] wr fun e w' => e = .returned (.int .i64 want) ∧ Hid (LeastI w hb i want w') := by
  obtain ⟨S, L, hF, hw, hl⟩ := h
  rw [hw]
  exact (lkLeast_any hF.at' (by omega)).mono fun e w' hh => ⟨hh.1, S, L, hF.below hh.2, rfl, hl⟩
theorem LeastI.below {w wr w' : World} {hb i : Nat} {want : Int} (h : LeastI w hb i want wr) (hb' : Below wr.heap.size wr w') : LeastI w hb i want w' := by
  obtain ⟨S, L, hF, hw, hl⟩ := h
  exact ⟨S, L, hF.below hb', hw, hl⟩
theorem LeastI.b {w wr : World} {hb i : Nat} {want : Int} (h : LeastI w hb i want wr) : Below w.heap.size w wr := by obtain ⟨S, L, hF, _⟩ := h; exact hF.b
/-- A round: the box of its message, and the put. -/
theorem LeastI.round {w wr : World} {hb i : Nat} {want : Int} (h : LeastI w hb i want wr) (z : Int) (hi : i < 500) :
    Calls Try.prog 11 #[.pointer (some ⟨hb, 0, none⟩), (lp z i).val] (wr.alloc (.cells (lp z i).m.cells 35)) fun e w' => e = .returned (.int .i64 (if chkM (lp z i).m = 0 then 0 else 1)) ∧ Hid (w'.heap[wr.heap.size]? = some (.cells (lp z i).m.cells 35 (0, 0)) ∧ LeastI w hb (i + 1) (if chkM (lp z i).m = 0 then min want z else want) w') := by
  have hbb := (Below.refl _ wr).alloc (Nat.le_refl _) (.cells (lp z i).m.cells 35)
  have h2 := h.below hbb
  obtain ⟨S, L, hF, hw, hl⟩ := h
  have hx := heap_alloc_new wr (.cells (lp z i).m.cells 35)
  have hc := putC_least L z i (by omega)
  rw [← hc]
  refine ((hF.below hbb).put (lp z i) (by omega)).mono ?_
  rintro e w' ⟨he, h2⟩
  refine ⟨he, ?_⟩
  obtain ⟨S', h3, h4⟩ := h2.out
  refine ⟨(h4.1.block _ (by simp) (fun e => by have := hF.at'.lt e; omega)).trans hx, ⟨S', _, h3, ?_, ?_⟩⟩
  · unfold putL
    rw [hc]
    split
    · rw [if_pos rfl, leastT_snoc, hw]; rfl
    · rw [if_neg (by omega), hw]
  · unfold putL
    split
    · rw [List.length_append]; simp; omega
    · omega

set_option maxHeartbeats 8000000 in
set_option maxRecDepth 100000 in
theorem lawLinkLeast {w : World} {a : Option Addr} {len cap : Nat} (h : Nums w a len cap) : Calls Try.prog 6 #[.slice a len cap] w fun e w' => e = .returned (.bool true) ∧ Below w.heap.size w w' := by
  have hn := fun w => lkNew_yes (f := 0) (t := 0) (k := 1) (b := false) (most := 1024) ⟨by omega, by omega, by omega⟩ w
  unfold lkV at hn
  obtain ⟨h1, h2, h3⟩ := h
  have h3' := Lib.hid h3
  have hcm : len ≤ 9223372036854775807 ∧ cap ≤ 9223372036854775807 := by unfold maxLen at h2; omega
  obtain ⟨hlm, hcm⟩ := hcm
  clear h3 h2
  have hst : Hid (∀ hb w1, Hid (Made w ⟨0, 0, 1024, false⟩ hb w1) → LeastI w hb 0 4611686018427387904 w1) := Lib.hid (fun hb w1 h => ⟨_, [], Fresh.mk' h.out, rfl, Nat.le_refl _⟩)
  have hck := fun m w => eCheck_any m w
  simp only [M.val] at hck
  go_enter Try.func6, Try.ntmps6
  go_wp2_with (first
    | (go_at_call 9; refine (hn w).mono ?_; rintro e w1 ⟨hb, rfl, hM⟩; have hI0 := Lib.hid (hst.out hb w1 hM); have hle := hI0.out.least (by omega))
    | (go_at_call 19; refine hle.mono ?_; rintro e w2 ⟨rfl, hI2⟩))
  clear hle hI0 hM
  go_loopw [6, 5] (fun s6 s5 wr => ∃ (i : Nat) (want : Int), i ≤ len ∧ i ≤ 500 ∧ s6 = .int .i64 i ∧ s5 = .int .i64 want ∧ Hid (LeastI w hb i want wr)) (fun s6 _ _ => len - (intOf s6).toNat)
  case atStart => exact ⟨0, _, Nat.zero_le _, by omega, rfl, rfl, hI2⟩
  case round =>
    obtain ⟨i, want, hi1, hi2, rfl, rfl, hI⟩ := hrel
    clear hI2
    by_cases hil : i < len
    · have hz1 : (i : Int) < (len : Int) := by omega
      by_cases hi5 : i < 500
      · have hz2 : (i : Int) < 500 := by omega
        obtain ⟨b, off, rfl, hbw, hop⟩ : ∃ b off, a = some ⟨b, off, none⟩ ∧ b < w.heap.size ∧ ∀ i, i < len → ∃ z : Int, (Lit.int .i64 z).wf = true ∧ w.cell? ⟨b, off + i, none⟩ = some (.int .i64 z) := by
          rcases h3'.out with h0 | hx
          · omega
          · exact hx
        obtain ⟨z, hzf, hcz⟩ := hop i hil
        have hcw : Hid (∀ w', Below w.heap.size w w' → w'.cell? ⟨b, off + i, none⟩ = some (.int .i64 z)) := Lib.hid (fun w' h => (h.cell (p := ⟨b, _, none⟩) hbw).trans hcz)
        have c0 := hcw.out wr hI.out.b
        have hrd := Lib.hid (hI.out.round z hi5)
        have hmc : Hid ((lp z i).m.cells = #[.int .i64 z, .int .i64 0, .int .i64 0, .int .i64 0, .int .i64 0, .int .i64 (i : Int), .bool false]) := rfl
        have hmv : Hid ((lp z i).val = .agg #[.int .i64 z, .int .i64 0, .int .i64 0, .int .i64 0, .int .i64 0, .int .i64 (i : Int), .bool false, .int .i64 0]) := rfl
        have hmm : Hid ((lp z i).m = ⟨⟨z, 0, 0⟩, 0, 0, (i : Int), false⟩) := rfl
        rw [hmc.out, hmv.out, hmm.out] at hrd
        clear hmc hmv hmm hop hcz hI hzf
        have hb0 : Hid ((wr.alloc (.cells #[.int .i64 z, .int .i64 0, .int .i64 0, .int .i64 0, .int .i64 0, .int .i64 (i : Int), .bool false] 35)).heap[wr.heap.size]? = some (.cells #[.int .i64 z, .int .i64 0, .int .i64 0, .int .i64 0, .int .i64 0, .int .i64 (i : Int), .bool false] 35 (0, 0))) := heap_alloc_new wr _
        have hk1 := hck ⟨⟨z, 0, 0⟩, 0, 0, (i : Int), false⟩
        generalize chkM ⟨⟨z, 0, 0⟩, 0, 0, (i : Int), false⟩ = cc at *
        simp only at hk1
        go_upto_region 9 with fail
        generalize wr.heap.size = B at *
        generalize wr.alloc (.cells #[.int .i64 z, .int .i64 0, .int .i64 0, .int .i64 0, .int .i64 0, .int .i64 (i : Int), .bool false] 35) = W1 at *
        have x0 := cell_of_block (o := 0) hb0.out rfl
        have x1 := cell_of_block (o := 1) hb0.out rfl
        have x2 := cell_of_block (o := 2) hb0.out rfl
        have x3 := cell_of_block (o := 3) hb0.out rfl
        have x4 := cell_of_block (o := 4) hb0.out rfl
        have x5 := cell_of_block (o := 5) hb0.out rfl
        have x6 := cell_of_block (o := 6) hb0.out rfl
        go_upto_region 10 with (go_at_call 11; refine hrd.out.mono ?_; rintro e w2 ⟨rfl, hq⟩)
        clear x0 x1 x2 x3 x4 x5 x6 hrd hb0 c0
        obtain ⟨hb2, hI2⟩ := hq.out
        have x0 := cell_of_block (o := 0) hb2 rfl
        have x1 := cell_of_block (o := 1) hb2 rfl
        have x2 := cell_of_block (o := 2) hb2 rfl
        have x3 := cell_of_block (o := 3) hb2 rfl
        have x4 := cell_of_block (o := 4) hb2 rfl
        have x5 := cell_of_block (o := 5) hb2 rfl
        have x6 := cell_of_block (o := 6) hb2 rfl
        have hI2' := Lib.hid hI2
        clear hb2 hI2 hq
        have hnext : Hid (∀ w3, Read w2 w3 → w3.cell? ⟨b, off + i, none⟩ = some (.int .i64 z) ∧ Calls Try.prog 19 #[.pointer (some ⟨hb, 0, none⟩)] w3 fun e w' => e = .returned (.int .i64 (if cc = 0 then min want z else want)) ∧ Hid (LeastI w hb (i + 1) (if cc = 0 then min want z else want) w')) := Lib.hid (fun w3 hr => by
          have h3 := hI2'.out.below hr.below
          exact ⟨hcw.out w3 h3.b, h3.least (by omega)⟩)
        have hw1 : IntKind.i64.wrap ((i : Int) + 1) = (i : Int) + 1 := IntWalk.i64_in _ (by omega)
        clear hcw hI2'
        by_cases hcc : cc = 0
        · subst hcc
          rw [if_pos rfl] at hnext
          simp only [if_true]
          go_wp2_with (first
            | (go_at_call 25; refine (hk1 _).mono ?_; rintro e w3 ⟨rfl, hr3⟩; obtain ⟨c3, hL3⟩ := hnext.out w3 hr3; clear hr3)
            | (go_at_call 19; refine hL3.mono ?_; rintro e w4 ⟨rfl, hI4⟩))
          go_roundw
          case rel => exact ⟨i + 1, _, by omega, by omega, by go_num, rfl, hI4⟩
          case measure => simp [intOf]; omega
        · rw [if_neg hcc] at hnext
          simp only [hcc, if_false]
          go_wp2_with (first
            | (go_at_call 25; refine (hk1 _).mono ?_; rintro e w3 ⟨rfl, hr3⟩; obtain ⟨c3, hL3⟩ := hnext.out w3 hr3; clear hr3)
            | (go_at_call 19; refine hL3.mono ?_; rintro e w4 ⟨rfl, hI4⟩))
          go_roundw
          case rel => exact ⟨i + 1, _, by omega, by omega, by go_num, rfl, hI4⟩
          case measure => simp [intOf]; omega
      · have hz2 : ¬ (i : Int) < 500 := by omega
        have haw := awake_any11 wr
        have hB := Lib.hid hI.out.b
        clear hI
        go_wp2_with (go_at_call 24; refine haw.mono ?_; rintro e w3 ⟨rfl, hb3⟩; have hb3' := Lib.hid (hB.out.trans (hb3.mono hB.out.size)); clear hb3)
        go_ret
        exact ⟨rfl, hb3'.out⟩
    · have hz1 : ¬ (i : Int) < (len : Int) := by omega
      have haw := awake_any11 wr
      have hB := Lib.hid hI.out.b
      clear hI
      go_wp2_with (go_at_call 24; refine haw.mono ?_; rintro e w3 ⟨rfl, hb3⟩; have hb3' := Lib.hid (hB.out.trans (hb3.mono hB.out.size)); clear hb3)
      go_ret
      exact ⟨rfl, hb3'.out⟩
end Go.Proofs.Ytjbammgnkegecaa
