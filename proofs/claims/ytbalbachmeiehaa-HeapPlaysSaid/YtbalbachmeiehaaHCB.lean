/-
  The law that a message that is cut out is the one of its sending, and all others stay.
-/
import Derived.Test.YtbalbachmeiehaaHCA
import Derived.LoopTactic
namespace Go.Proofs.Ytbalbachmeiehaa
open Go.ChangeShapes Go.WideShapes Go.ChangeAt Go.Shelf Go.RowKit Go.Lib Go.Sort Go.Deep Go.Maps
set_option linter.unusedVariables false

theorem wf_u8n {n : Int} (h : (Lit.int .u8 n).wf = true) : 0 ≤ n ∧ n ≤ 255 := by
  simpa [Lit.wf, IntKind.min, IntKind.max, IntKind.signed, IntKind.bits] using h
/-- What the box holds behind i rounds. -/
def oU (ms : List M) (k i : Nat) : M := if k < i then nthU ms k else zeroM
theorem oU_other {ms : List M} {k i : Nat} (h : i ≠ k) : oU ms k (i + 1) = oU ms k i := by
  unfold oU
  by_cases hk : k < i
  · rw [if_pos hk, if_pos (by omega)]
  · rw [if_neg hk, if_neg (by omega)]
theorem oU_at (ms : List M) (k : Nat) : oU ms k (k + 1) = nthU ms k := if_pos (Nat.lt_succ_self k)
theorem outU_none (ms : List M) (k n : Nat) (f : Int) : hasS (stab ltM (outU ms k n)) f (k : Int) = false := by
  rw [hasS_perm (stab_perm _)]
  cases h : hasS (outU ms k n) f (k : Int) with
  | false => rfl
  | true =>
    obtain ⟨m, hm, _, hu⟩ := hasS_iff.1 h
    have := (List.mem_filter.1 hm).2
    simp [hu] at this
theorem zeroM_cells' : zeroM.cells = #[.int .i64 0, .int .i64 0, .int .i64 0, .int .i64 0, .int .i64 0, .int .i64 0, .bool false] := rfl
/-- The last four calls. -/
theorem Duo.ends {w wr : World} {Bp Bo n : Nat} {P : List M} {o : M} (h : Duo w wr Bp Bo n P P o) :
    Calls Try.prog 13 #[.pointer (some ⟨w.heap.size + 2, 0, none⟩)] wr fun e w1 => ∃ (a1 : Option Addr) (c1 : Nat), e = .returned (.slice a1 P.length c1) ∧ Hid (
      Calls Try.prog 13 #[.pointer (some ⟨Bp + 2, 0, none⟩)] w1 fun e w2 => ∃ (a2 : Option Addr) (c2 : Nat), e = .returned (.slice a2 P.length c2) ∧ Hid (
        Calls Try.prog 12 #[.slice a1 P.length c1, .slice a2 P.length c2] w2 fun e w3 => e = .returned (.bool true) ∧ Hid (
          Calls Try.prog 11 #[.pointer (some ⟨w.heap.size + 2, 0, none⟩)] w3 fun e w4 => e = .returned (.int .i64 P.length) ∧ w3 = w4 ∧ Below w.heap.size w w4))) := by
  have hB0 : Below w.heap.size w wr := by obtain ⟨_, _, _, _, _, _, _, h6, _⟩ := h; exact h6
  have hall := h
  obtain ⟨v, v2, h1, h2, _⟩ := h
  refine (hAll_any h1).mono ?_
  rintro e w1 ⟨a1, c1, he, hM1⟩
  obtain ⟨hM1, hb1, _⟩ := hM1.out
  have hb1 : Below wr.heap.size wr w1 := hb1
  refine ⟨a1, c1, he, ?_⟩
  refine (hAll_any (h2.below hb1)).mono ?_
  rintro e w2 ⟨a2, c2, he2, hM2⟩
  obtain ⟨hM2, hb2, _⟩ := hM2.out
  have hM1' := hM1.below hb2
  refine ⟨a2, c2, he2, (same_eq hM1' hM2).mono ?_⟩
  rintro e w3 ⟨he3, hr3⟩
  refine ⟨he3, (hLen_any ((h1.below hb1).below (hb2.trans (hr3.below.mono hb2.size)))).mono ?_⟩
  rintro e w4 ⟨he4, rfl⟩
  exact ⟨he4, rfl, (hB0.trans (hb1.mono hB0.size)).trans ((hb2.trans (hr3.below.mono hb2.size)).mono (Nat.le_trans hB0.size hb1.size))⟩

set_option maxHeartbeats 4000000 in
set_option maxRecDepth 100000 in
theorem lawHeapCuts {w : World} {a : Option Addr} {len cap : Nat} {ms : List M} (h : Msgs w a len cap ms) (hr : len * 56 ≤ 140737488351232) (x : Nat) (hx : x < 256) :
    Calls Try.prog 5 #[.slice a len cap, .int .u8 x] w fun e w' => e = .returned (.bool true) ∧ Below w.heap.size w w' := by
  have mixed := mixed
  have hlen := Lib.hid h.1
  have hfit := Lib.hid h.2.2.2.1
  have hmx : len ≤ 9223372036854775807 := by have h1 := h.2.1; have h2 := h.2.2.1; unfold maxLen at h2; omega
  obtain ⟨nn, hnn⟩ : ∃ nn, nn = min len 300 := ⟨_, rfl⟩
  have hm : min (len : Int) 300 = (nn : Int) := by rw [hnn]; omega
  have hnn' : nn ≤ len ∧ nn ≤ 300 := by omega
  obtain ⟨hn1, hn2⟩ := hnn'
  have h' := Lib.hid h
  clear h hnn
  go_enter Try.func5, Try.ntmps5
  go_upto_region 2 with (go_at_call 8; refine (hNew_any w).mono ?_; rintro e w1 ⟨rfl, hQ1⟩; have hQ1' := Lib.hid hQ1; clear hQ1)
  go_upto_region 6 with (go_at_call 8; refine (hNew_any w1).mono ?_; rintro e w2 ⟨rfl, hQ2⟩; have hQ2' := Lib.hid hQ2; clear hQ2)
  have hbd1 : w.heap.size + 3 ≤ w1.heap.size := by
    obtain ⟨l, hl, _⟩ := hQ1'.out.1.t
    exact hl.bd
  have hbd2 : w1.heap.size + 3 ≤ w2.heap.size := by
    obtain ⟨l, hl, _⟩ := hQ2'.out.1.t
    exact hl.bd
  by_cases h0 : nn = 0
  · subst h0
    have hc := hCut_none (hQ1'.out.1.below hQ2'.out.2) (f := 0) (u := 0) (by kernel_rfl) (by kernel_rfl) rfl
    rw [zeroM_val] at hc
    have hbb : Hid (∀ w3, Below w2.heap.size w2 w3 → Below w.heap.size w w3) := fun w3 hb => (hQ1'.out.2.trans (hQ2'.out.2.mono hQ1'.out.2.size)).trans (hb.mono (by omega))
    clear hbd1 hbd2
    go_wp2_with (go_at_call 18; refine hc.mono ?_; rintro e w3 ⟨rfl, hb3⟩; have hb3' := Lib.hid hb3; clear hb3)
    go_ret
    exact ⟨rfl, (hbb.out _ hb3'.out).alloc (hbb.out _ hb3'.out).size _⟩
  · have hz0 : ((nn : Int) == 0) = false := by simp; omega
    have hpos : 0 < nn := by omega
    clear h0
    obtain ⟨k, hk⟩ : ∃ k, k = x % nn := ⟨_, rfl⟩
    have hkn : k < nn := by rw [hk]; exact Nat.mod_lt _ hpos
    have hxi : (x : Int) < 256 := by omega
    have hmod : Int.tmod (x : Int) (nn : Int) = (k : Int) := by rw [hk]; exact (Int.ofNat_tmod x nn).symm
    have hwx : IntKind.i64.wrap (x : Int) = (x : Int) := IntWalk.i64_in _ (by omega)
    have hwk : IntKind.i64.wrap (k : Int) = (k : Int) := IntWalk.i64_in _ (by omega)
    clear hk
    go_upto_region 11 with (fail)
    have hD0 : Duo w (w2.alloc (.cells zeroM.cells 31)) w1.heap.size w2.heap.size (2 * 0) (stab ltM (inU ms 0)) (stab ltM (outU ms k 0)) (oU ms k 0) := by
      have hb := (Below.refl _ w2).alloc (Nat.le_refl _) (.cells zeroM.cells 31)
      refine ⟨.slice none 0 0, .slice none 0 0, (hQ1'.out.1.below hQ2'.out.2).below hb, hQ2'.out.1.below hb, (fun g hg => by cases hg), (fun g hg => by cases hg), ?_, (hQ1'.out.2.trans (hQ2'.out.2.mono hQ1'.out.2.size)).trans (hb.mono (by omega)), hbd1, hbd2⟩
      show BoxM _ _ (oU ms k 0)
      rw [show oU ms k 0 = zeroM from if_neg (Nat.not_lt_zero k)]
      exact BoxM.mk w2 zeroM
    have hD0' := Lib.hid hD0
    simp only [zeroM_cells'] at hD0'
    clear hD0
    have hbd1' := Lib.hid hbd1
    have hbd2' := Lib.hid hbd2
    clear hbd1 hbd2 hQ1' hQ2' hmod hwx hwk
    generalize w2.alloc (.cells #[.int .i64 0, .int .i64 0, .int .i64 0, .int .i64 0, .int .i64 0, .int .i64 0, .bool false] 31) = W3 at hD0' ⊢
    generalize w2.heap.size = Bo at hD0' hbd2' ⊢
    generalize w1.heap.size = Bp at hD0' hbd1' hbd2' ⊢
    go_wp2_with fail
    go_loopw [12] (fun s12 wr => ∃ i : Nat, i ≤ nn ∧ s12 = .int .i64 i ∧ Hid (Duo w wr Bp Bo (2 * i) (stab ltM (inU ms i)) (stab ltM (outU ms k i)) (oU ms k i))) (fun s12 _ => nn - (intOf s12).toNat)
    case atStart => exact ⟨0, Nat.zero_le _, rfl, hD0'⟩
    case round =>
      obtain ⟨i, hi, rfl, hD⟩ := hrel
      clear hD0'
      by_cases hin : i < nn
      · have hz : (i : Int) < (nn : Int) := by omega
        obtain ⟨b, off, rfl, hma⟩ : ∃ b off, a = some ⟨b, off, none⟩ ∧ ∀ i, i < len → MsgAt w b (off + i * 7) (ms.getD i default) := by
          rcases h'.out.2.2.2.2 with h0 | hx
          · omega
          · exact hx
        have hmk := (hma i (by omega)).below hD.out.choose_spec.choose_spec.2.2.2.2.2.1
        have hkl : i < len := by omega
        have hnk : Hid (nthU ms i = { ms.getD i default with u := (i : Int) }) := rfl
        generalize ms.getD i default = m at hmk hnk
        obtain ⟨⟨t, f, s⟩, tt, vv, u, an⟩ := m
        obtain ⟨-, x0, x1, x2, x3, x4, x5, x6⟩ := hmk
        simp only at x0 x1 x2 x3 x4 x5 x6 hnk
        clear hma
        go_upto_region 16 with (fail)
        have hbx : BoxM (wr.alloc (.cells #[.int .i64 t, .int .i64 f, .int .i64 s, .int .i64 tt, .int .i64 vv, .int .i64 (i : Int), .bool an] 31)) wr.heap.size ⟨⟨t, f, s⟩, tt, vv, (i : Int), an⟩ := BoxM.mk wr ⟨⟨t, f, s⟩, tt, vv, (i : Int), an⟩
        have hb2 : Below wr.heap.size wr (wr.alloc (.cells #[.int .i64 t, .int .i64 f, .int .i64 s, .int .i64 tt, .int .i64 vv, .int .i64 (i : Int), .bool an] 31)) := (Below.refl _ wr).alloc (Nat.le_refl _) _
        have hnf := nthU_fits hfit.out i (by rw [hlen.out]; omega) (by omega)
        rw [← hnk.out] at hbx
        have hps := hD.out.pushQ hb2 hbx (Nat.le_refl _) hnf (inU_new ms i _) (by rw [stab_length, inU_length]; omega) (by unfold maxLen; omega)
        have hA : mg ltM (stab ltM (inU ms i)) [nthU ms i] = stab ltM (inU ms (i + 1)) := by rw [inU_succ, stab_snoc]
        rw [hA] at hps
        obtain ⟨-, y0, y1, y2, y3, y4, y5, y6⟩ := hbx.at
        simp only [Nat.zero_add] at y0 y1 y2 y3 y4 y5 y6
        have hpp : Hid (∀ w5, Duo w w5 Bp Bo (2 * i + 1) (stab ltM (inU ms (i + 1))) (stab ltM (outU ms k i)) (oU ms k i) → i ≠ k → Calls Try.prog 15 #[.pointer (some ⟨Bp + 2, 0, none⟩), (nthU ms i).val] w5 fun e w' => e = .returned (.int .i64 0) ∧ Hid (Duo w w' Bp Bo (2 * (i + 1)) (stab ltM (inU ms (i + 1))) (stab ltM (outU ms k (i + 1))) (oU ms k (i + 1)))) := by
          intro w5 hd hik
          have := hd.pushP hnf (outU_new ms k i _) (by rw [stab_length]; have := outU_length ms k i; omega) (by unfold maxLen; omega)
          refine this.mono ?_
          rintro e w' ⟨he, hd2⟩
          refine ⟨he, ?_⟩
          have h2 := hd2.out
          rw [oU_other hik, outU_succ, if_neg hik, stab_snoc]
          exact h2
        have hpo : Hid (∀ w5 w6, Duo w w5 Bp Bo (2 * i + 1) (stab ltM (inU ms (i + 1))) (stab ltM (outU ms k i)) (oU ms k i) → i = k → KeptOff (fun k => k = Bo) w5 w6 → BoxM w6 Bo (nthU ms i) → Duo w w6 Bp Bo (2 * (i + 1)) (stab ltM (inU ms (i + 1))) (stab ltM (outU ms k (i + 1))) (oU ms k (i + 1))) := by
          rintro w5 w6 hd rfl hk6 hb6
          rw [oU_at, outU_succ, if_pos rfl]
          exact (hd.box hk6 hb6).mono (by omega)
        have hbo : Hid (∀ w5, Duo w w5 Bp Bo (2 * i + 1) (stab ltM (inU ms (i + 1))) (stab ltM (outU ms k i)) (oU ms k i) → BoxM w5 Bo (oU ms k i)) := by
          rintro w5 ⟨_, _, _, _, _, _, h5, _⟩
          exact h5
        generalize wr.heap.size = Bx at hps y0 y1 y2 y3 y4 y5 y6 ⊢
        generalize wr.alloc (.cells #[.int .i64 t, .int .i64 f, .int .i64 s, .int .i64 tt, .int .i64 vv, .int .i64 (i : Int), .bool an] 31) = W4 at hps y0 y1 y2 y3 y4 y5 y6 ⊢
        generalize nthU ms i = m at hps y0 y1 y2 y3 y4 y5 y6 hpp hpo
        simp only [M.val] at hps hpp
        have hps' := Lib.hid hps
        clear hps hnk hnf hA hb2 hbx x0 x1 x2 x3 x4 x5 x6 hD
        go_upto_region 17 with (go_at_call 15; refine hps'.out.mono ?_; rintro e w5 ⟨rfl, h5⟩; have h5' := Lib.hid h5.out; clear h5)
        obtain ⟨-, z0, z1, z2, z3, z4, z5, z6⟩ := h5'.out.1.at
        simp only [Nat.zero_add] at z0 z1 z2 z3 z4 z5 z6
        clear y0 y1 y2 y3 y4 y5 y6 hps'
        by_cases hik : i = k
        · subst hik
          have hbo5 := Lib.hid (hbo.out w5 h5'.out.2)
          have hfin := Lib.hid (hpo.out w5 (w5.setRow Bo m.cells) h5'.out.2 rfl (KeptOff.setRow _ _ _) (hbo5.out.row m))
          clear hpp hpo hbo
          go_wp2_with (refine wpList_store_row rfl 31 (.tmp 11) (.tmp 60) rfl Bo m.cells rfl rfl 31 (oU ms i i).cells hbo5.out infoS rfl (M.cells_one m) ?_)
          go_roundw
          case rel => exact ⟨i + 1, by omega, by go_num, hfin⟩
          case measure => simp [intOf]; omega
        · have hzk : ¬ (i : Int) = (k : Int) := by omega
          have hpu := Lib.hid (hpp.out w5 h5'.out.2 hik)
          clear hik hpp hpo hbo
          go_wp2_with (go_at_call 15; refine hpu.out.mono ?_; rintro e w6 ⟨rfl, h6⟩; have h6' := Lib.hid h6.out; clear h6)
          go_roundw
          case rel => exact ⟨i + 1, by omega, by go_num, h6'⟩
          case measure => simp [intOf]; omega
      · obtain rfl : i = nn := by omega
        have hz : ¬ (i : Int) < (i : Int) := by omega
        have hPl : (stab ltM (outU ms k i)).length = i - 1 := by
          obtain ⟨j, hj, e⟩ := List.getElem_of_mem (inU_has ms hkn)
          rw [← cut_is_out ms hkn j hj e, List.length_eraseIdx_of_lt hj, stab_length, inU_length]
        have hnf := nthU_fits hfit.out k (by rw [hlen.out]; omega) (by omega)
        have hno := fun f => outU_none ms k i f
        have hD2 := hD.out
        rw [show oU ms k i = nthU ms k from if_pos hkn] at hD2
        have hcut := hD2.cutQ (inU_has ms hkn) hnf (cut_is_out ms hkn)
        have hbo : BoxM wr Bo (nthU ms k) := by
          obtain ⟨_, _, _, _, _, _, h5, _⟩ := hD2
          exact h5
        have hmu : (nthU ms k).u = (k : Int) := rfl
        rw [hmu] at hcut
        have hkw : (Lit.int .i64 (k : Int)).wf = true := WalkArith.wf_i64 (by omega)
        generalize stab ltM (outU ms k i) = P at hPl hno hcut
        generalize nthU ms k = m at hnf hcut hbo hmu
        have hnx : Hid (∀ W6, Duo w W6 Bp Bo (2 * i) P P m → BoxM W6 Bo m ∧ Calls Try.prog 18 #[.pointer (some ⟨w.heap.size + 2, 0, none⟩), .int .i64 m.k.f, .int .i64 (k : Int)] W6 fun e w7 => e = .returned (.tuple #[zeroM.val, .int .i64 6]) ∧ Below W6.heap.size W6 w7) := by
          intro W6 hd
          obtain ⟨v, v2, q1, _, _, _, h5, _⟩ := hd
          exact ⟨h5, hCut_none q1 hnf.1.2.1 hkw (hno _)⟩
        have heq := fun w => eqlM m m w
        simp only [decide_true, M.val] at heq
        have hlw : IntKind.i64.wrap ((i : Int) - 1) = (i : Int) - 1 := IntWalk.i64_in _ (by omega)
        have hle : (P.length : Int) = (i : Int) - 1 := by omega
        obtain ⟨-, -, y1, -, -, -, -, -⟩ := hbo.at
        simp only [Nat.zero_add] at y1
        rw [zeroM_val] at hnx
        simp only [M.val] at hcut
        have hcut' := Lib.hid hcut
        have hle' := Lib.hid hle
        clear hcut hD hD2 hno hmu hnf hbo hPl hkw hle
        go_upto_region 21 with (go_at_call 18; refine hcut'.out.mono ?_; rintro e w5 ⟨rfl, h5⟩; have h5' := Lib.hid h5.out; clear h5)
        have hb6 : Below w5.heap.size w5 (w5.alloc (.cells m.cells 31)) := (Below.refl _ w5).alloc (Nat.le_refl _) _
        have hD6 := Lib.hid (h5'.out.below hb6)
        have hx6 := Lib.hid (BoxM.mk w5 m)
        simp only [M.cells] at hD6 hx6
        clear hb6 hcut' y1
        generalize w5.heap.size = B14 at hx6 ⊢
        generalize w5.alloc (.cells #[.int .i64 m.k.t, .int .i64 m.k.f, .int .i64 m.k.s, .int .i64 m.to, .int .i64 m.v, .int .i64 m.u, .bool m.anti] 31) = W6 at hD6 hx6 ⊢
        obtain ⟨hbo6, hc6⟩ := hnx.out W6 hD6.out
        obtain ⟨-, -, y1, -, -, -, -, -⟩ := hbo6.at
        simp only [Nat.zero_add] at y1
        clear hbo6
        go_upto_region 22 with (go_at_call 18; refine hc6.mono ?_; rintro e w7 ⟨rfl, h7⟩; have h7' := Lib.hid h7; clear h7)
        have hb8 := h7'.out.alloc h7'.out.size (.cells zeroM.cells 31)
        have hD8 := Lib.hid (hD6.out.below hb8)
        have hx8 := Lib.hid (hx6.out.kept (S := fun _ => False) (.of_below hb8) (fun e => e))
        simp only [zeroM_cells'] at hD8 hx8
        clear hb8 hc6 y1 hD6 hx6
        generalize w7.alloc (.cells #[.int .i64 0, .int .i64 0, .int .i64 0, .int .i64 0, .int .i64 0, .int .i64 0, .bool false] 31) = W8 at hD8 hx8 ⊢
        obtain ⟨hbo8, -⟩ := hnx.out W8 hD8.out
        obtain ⟨-, y0, y1, y2, y3, y4, y5, y6⟩ := hbo8.at
        obtain ⟨-, z0, z1, z2, z3, z4, z5, z6⟩ := hx8.out.at
        simp only [Nat.zero_add] at y0 y1 y2 y3 y4 y5 y6 z0 z1 z2 z3 z4 z5 z6
        have hE := hD8.out.ends
        have hle2 := hle'.out
        generalize P.length = L at hE hle2
        rw [hle2] at hE
        clear hbo8 hnx hle2 hle' hD8 hx8
        go_wp2_with (first
          | (go_at_call 13; (with_reducible refine hE.mono ?_); rintro e w9 ⟨a1, c1, rfl, hE2⟩; have hE2' := hE2.out; clear hE2)
          | (go_at_call 13; (with_reducible refine hE2'.mono ?_); rintro e w10 ⟨a2, c2, rfl, hE3⟩; have hE3' := hE3.out; clear hE3)
          | (go_at_call 12; (with_reducible refine hE3'.mono ?_); rintro e w11 ⟨rfl, hE4⟩; have hE4' := hE4.out; clear hE4)
          | (go_at_call 11; (with_reducible refine hE4'.mono ?_); rintro e w12 ⟨rfl, rfl, hb12⟩; have hb12' := Lib.hid hb12; clear hb12))
        go_ret
        exact ⟨rfl, hb12'.out⟩
end Go.Proofs.Ytbalbachmeiehaa
