/-
  The law of a turn of numbers.
-/
import Derived.Test.YtjbammgnkegecaaKN
namespace Go.Proofs.Ytjbammgnkegecaa
open Go.ChangeShapes Go.WideShapes Go.ChangeAt Go.Shelf Go.RowKit Go.Lib Go.Sort Go.Deep
set_option linter.unusedVariables false
set_option maxRecDepth 4000

/-- A parcel of the number i, of a colour. -/
def bp (c : Nat → Int) (i : Nat) : Pc := ⟨⟨⟨0, 0, 0⟩, 1, 0, (i : Int), false⟩, c i⟩
def bps (c : Nat → Int) (i : Nat) : List Pc := (List.range i).map (bp c)
theorem bps_length (c : Nat → Int) (i : Nat) : (bps c i).length = i := by simp [bps]
theorem bps_get (c : Nat → Int) {i k : Nat} (h : k < i) : (bps c i).getD k default = bp c k := by simp [bps, List.getD_eq_getElem?_getD, h]
theorem bps_snoc (c : Nat → Int) (i : Nat) : bps c (i + 1) = bps c i ++ [bp c i] := by simp [bps, List.range_succ]
theorem putC_bp (c : Nat → Int) (most : Int) (lo : Bool) (n i : Nat) (hi : i < 100000) (hn : (n : Int) < most) : putC ⟨0, 1, most, lo⟩ n (bp c i) = 0 := by
  have hc : chkM (bp c i).m = 0 := by
    unfold chkM bp
    simp
  unfold putC
  rw [if_neg (fun e => by rcases e with e | e | e <;> first | exact e hc | exact e rfl), if_neg (by simp only; omega)]
/-- What stands between two rounds of the puts. -/
def BackI (w : World) (hb : Nat) (most : Int) (lo : Bool) (c : Nat → Int) (i : Nat) (wr : World) : Prop := ∃ S, Fresh w wr hb S ⟨0, 1, most, lo⟩ (bps c i)
theorem BackI.b {w wr : World} {hb : Nat} {most : Int} {lo : Bool} {c : Nat → Int} {i : Nat} (h : BackI w hb most lo c i wr) : Below w.heap.size w wr := by obtain ⟨S, hF⟩ := h; exact hF.b
theorem BackI.below {w wr w' : World} {hb : Nat} {most : Int} {lo : Bool} {c : Nat → Int} {i : Nat} (h : BackI w hb most lo c i wr) (hb' : Below wr.heap.size wr w') : BackI w hb most lo c i w' := by obtain ⟨S, hF⟩ := h; exact ⟨S, hF.below hb'⟩
theorem BackI.put {w wr : World} {hb : Nat} {most : Int} {lo : Bool} {c : Nat → Int} {i : Nat} (h : BackI w hb most lo c i wr) (hi : (i : Int) < most) (hi2 : i < 100000) : Calls Try.prog 11 #[.pointer (some ⟨hb, 0, none⟩), (bp c i).val] wr fun e w' => e = .returned (.int .i64 0) ∧ Hid (BackI w hb most lo c (i + 1) w') := by
  obtain ⟨S, hF⟩ := h
  have hc := putC_bp c most lo i i hi2 hi
  have hl := bps_length c i
  refine (hF.put (bp c i) (by omega)).mono ?_
  rintro e w' ⟨he, h2⟩
  rw [hl, hc] at he
  refine ⟨he, ?_⟩
  obtain ⟨S', h3, h4⟩ := h2.out
  unfold putL at h3
  rw [hl, if_pos hc, ← bps_snoc] at h3
  exact ⟨S', h3⟩
theorem BackI.peek {w wr : World} {hb : Nat} {most : Int} {c : Nat → Int} {i : Nat} (h : BackI w hb most true c i wr) (h0 : 0 < i) (hi : i < 100000) (n : Int) : Calls Try.prog 13 #[.pointer (some ⟨hb, 0, none⟩), .int .i64 n] wr fun e w' => e = .returned (.tuple #[(bp c (n % (i : Int)).toNat).val, .int .i64 0]) ∧ Hid (BackI w hb most true c i w' ∧ Below wr.heap.size wr w') := by
  obtain ⟨S, hF⟩ := h
  have hl := bps_length c i
  refine (peek_any hF.at' n (by omega)).mono ?_
  rintro e w' ⟨he, h2⟩
  refine ⟨?_, ⟨S, hF.below h2⟩, h2⟩
  have hne : bps c i ≠ [] := fun e => by rw [e] at hl; simp at hl; omega
  rw [he]
  unfold peekP peekC
  rw [if_neg hne, if_neg hne, hl, bps_get c (placeN_lt true n h0)]
  rfl
theorem BackI.len {w wr : World} {hb : Nat} {most : Int} {lo : Bool} {c : Nat → Int} {i : Nat} (h : BackI w hb most lo c i wr) : Calls Try.prog 21 #[.pointer (some ⟨hb, 0, none⟩)] wr fun e w' => e = .returned (.int .i64 i) ∧ wr = w' := by
  obtain ⟨S, hF⟩ := h
  have := lkLen_any hF.at'
  rwa [bps_length] at this
theorem tmod_twice (n k : Int) (hk : 0 < k) : (n.tmod k + k).tmod k = n % k := by
  obtain ⟨h1, h2⟩ := tmod_bd n k hk
  rw [Int.tmod_eq_emod_of_nonneg (by omega), Int.add_emod_right, tmod_emod n k hk]
  split
  · have e : n.tmod k % k = (n.tmod k + k) % k := by rw [Int.add_emod_right]
    rw [e, Int.emod_eq_of_lt (by omega) (by omega)]
  · rw [Int.emod_eq_of_lt (by omega) (by omega)]

set_option maxHeartbeats 8000000 in
set_option maxRecDepth 100000 in
theorem lawLinkBack (n : Nat) (hn8 : n < 256) (pick : Int) (hp : (Lit.int .i16 pick).wf = true) (times : Int) (ht : (Lit.int .i8 times).wf = true) (w : World) : Calls Try.prog 8 #[.int .u8 n, .int .i16 pick, .int .i8 times] w fun e w' => e = .returned (.bool true) ∧ Below w.heap.size w w' := by
  obtain ⟨T, hT⟩ : ∃ T : Nat, T = n % 30 := ⟨_, rfl⟩
  have hT20 : T < 30 := by omega
  have hp16 := wf_i16 hp
  have ht8 := wf_i8 ht
  have hq1 : Int.tmod (n : Int) 30 = (T : Int) := by rw [hT, Int.tmod_eq_emod_of_nonneg (by omega)]; omega
  have hq2 : IntKind.u8.wrap (T : Int) = (T : Int) := IntWalk.u8_in _ (by omega)
  have hq3 : IntKind.i64.wrap (T : Int) = (T : Int) := IntWalk.i64_in _ (by omega)
  have hq4 : IntKind.i64.wrap (1 + (T : Int)) = 1 + (T : Int) := IntWalk.i64_in _ (by omega)
  have hmb1 : times * (1 + (T : Int)) ≤ 127 * (1 + (T : Int)) := Int.mul_le_mul_of_nonneg_right ht8.2 (by omega)
  have hmb2 : -128 * (1 + (T : Int)) ≤ times * (1 + (T : Int)) := Int.mul_le_mul_of_nonneg_right ht8.1 (by omega)
  have hpos : (0 : Int) < 1 + (T : Int) := by omega
  have htm := tmod_bd pick (1 + (T : Int)) hpos
  have htw := tmod_twice pick (1 + (T : Int)) hpos
  have hem1 := Int.emod_nonneg pick (show (1 + (T : Int)) ≠ 0 by omega)
  have hem2 := Int.emod_lt_of_pos pick hpos
  have hq5 : IntKind.i64.wrap pick = pick := IntWalk.i64_in _ (by omega)
  have hq6 : IntKind.i64.wrap times = times := IntWalk.i64_in _ (by omega)
  have hq7 : IntKind.i64.wrap (times * (1 + (T : Int))) = times * (1 + (T : Int)) := IntWalk.i64_in _ (by omega)
  have hq8 : IntKind.i64.wrap (pick + times * (1 + (T : Int))) = pick + times * (1 + (T : Int)) := IntWalk.i64_in _ (by omega)
  have hq9 : IntKind.i64.wrap (pick.tmod (1 + (T : Int))) = pick.tmod (1 + (T : Int)) := IntWalk.i64_in _ (by omega)
  have hqa : IntKind.i64.wrap (pick.tmod (1 + (T : Int)) + (1 + (T : Int))) = pick.tmod (1 + (T : Int)) + (1 + (T : Int)) := IntWalk.i64_in _ (by omega)
  have hqb : IntKind.i64.wrap (pick % (1 + (T : Int))) = pick % (1 + (T : Int)) := IntWalk.i64_in _ (by omega)
  have hse : (pick + times * (1 + (T : Int))) % (1 + (T : Int)) = pick % (1 + (T : Int)) := Int.add_mul_emod_self_right _ _ _
  have hKc : (((T + 1 : Nat) : Nat) : Int) = 1 + (T : Int) := by omega
  have hne0 : ¬ 1 + (T : Int) = 0 := by omega
  have hn := fun w => lkNew_yes (f := 0) (t := 1) (k := 1) (b := true) (most := 100) ⟨by omega, by omega, by omega⟩ w
  unfold lkV at hn
  have hst : Hid (∀ hb w1, Hid (Made w ⟨0, 1, 100, true⟩ hb w1) → BackI w hb 100 true (fun _ => 0) 0 w1) := Lib.hid (fun hb w1 h => ⟨_, Fresh.mk' h.out⟩)
  have hKc' := Lib.hid hKc
  have hse' := Lib.hid hse
  clear hT hmb1 hmb2 hp ht hKc hse htm
  go_enter Try.func8, Try.ntmps8
  go_wp2_with (first
    | (go_at_call 9; refine (hn w).mono ?_; rintro e w1 ⟨hb, rfl, hM⟩; have hI0 := Lib.hid (hst.out hb w1 hM)))
  clear hM
  have hpk : Hid (∀ W (m : Int), BackI w hb 100 true (fun _ => 0) (T + 1) W → m % (1 + (T : Int)) = pick % (1 + (T : Int)) → Calls Try.prog 13 #[.pointer (some ⟨hb, 0, none⟩), .int .i64 m] W fun e w' => e = .returned (.tuple #[.agg #[.int .i64 0, .int .i64 0, .int .i64 0, .int .i64 1, .int .i64 0, .int .i64 (pick % (1 + (T : Int))), .bool false, .int .i64 0], .int .i64 0]) ∧ Hid (BackI w hb 100 true (fun _ => 0) (T + 1) w' ∧ Below W.heap.size W w')) := Lib.hid (fun W m h hm => by
    have h1 := h.peek (by omega) (by omega) m
    have e : (((m % ((T + 1 : Nat) : Int)).toNat : Nat) : Int) = pick % (1 + (T : Int)) := by rw [hKc'.out, hm]; omega
    have e2 : (bp (fun _ => 0) (m % ((T + 1 : Nat) : Int)).toNat).val = .agg #[.int .i64 0, .int .i64 0, .int .i64 0, .int .i64 1, .int .i64 0, .int .i64 (pick % (1 + (T : Int))), .bool false, .int .i64 0] := by unfold bp Pc.val; dsimp only; rw [e]
    rwa [e2] at h1)
  go_loopw [10] (fun s10 wr => ∃ i : Nat, i ≤ T + 1 ∧ s10 = .int .i64 i ∧ Hid (BackI w hb 100 true (fun _ => 0) i wr)) (fun s10 _ => (T + 1) - (intOf s10).toNat)
  case atStart => exact ⟨0, Nat.zero_le _, rfl, hI0⟩
  case round =>
    obtain ⟨i, hi1, rfl, hI⟩ := hrel
    clear hI0
    by_cases hil : i < T + 1
    · have hz1 : (i : Int) < 1 + (T : Int) := by omega
      have hput := Lib.hid (hI.out.put (by omega) (by omega))
      have hpv : Hid ((bp (fun _ => 0) i).val = .agg #[.int .i64 0, .int .i64 0, .int .i64 0, .int .i64 1, .int .i64 0, .int .i64 (i : Int), .bool false, .int .i64 0]) := rfl
      rw [hpv.out] at hput
      have hw1 : IntKind.i64.wrap ((i : Int) + 1) = (i : Int) + 1 := IntWalk.i64_in _ (by omega)
      clear hI hpv
      go_wp2_with (go_at_call 11; refine hput.out.mono ?_; rintro e w2 ⟨rfl, hq⟩)
      go_roundw
      case rel => exact ⟨i + 1, by omega, by go_num, hq⟩
      case measure => simp [intOf]; omega
    · obtain rfl : i = T + 1 := by omega
      have hz1 : ¬ ((T + 1 : Nat) : Int) < 1 + (T : Int) := by omega
      have hp1 := Lib.hid (hpk.out wr pick hI.out rfl)
      have hp2 : Hid (∀ W, BackI w hb 100 true (fun _ => 0) (T + 1) W → _) := Lib.hid (fun W h => hpk.out W (pick + times * (1 + (T : Int))) h hse'.out)
      have hbi : Hid (∀ W W', BackI w hb 100 true (fun _ => 0) (T + 1) W → Below W.heap.size W W' → BackI w hb 100 true (fun _ => 0) (T + 1) W') := Lib.hid (fun W W' h hb' => h.below hb')
      have hln : Hid (∀ W, BackI w hb 100 true (fun _ => 0) (T + 1) W → (Calls Try.prog 21 #[.pointer (some ⟨hb, 0, none⟩)] W fun e w' => e = .returned (.int .i64 (1 + (T : Int))) ∧ W = w') ∧ Below w.heap.size w W) := Lib.hid (fun W h => ⟨by
        have := h.len
        rwa [hKc'.out] at this, h.b⟩)
      have hqv : ∀ r : Int, Hid ((⟨⟨⟨0, 0, 0⟩, 1, 0, r, false⟩, 0⟩ : Pc).val = .agg #[.int .i64 0, .int .i64 0, .int .i64 0, .int .i64 1, .int .i64 0, .int .i64 r, .bool false, .int .i64 0]) := fun r => rfl
      have hqc : ∀ r : Int, Hid ((⟨⟨⟨0, 0, 0⟩, 1, 0, r, false⟩, 0⟩ : Pc).cells = #[.int .i64 0, .int .i64 0, .int .i64 0, .int .i64 1, .int .i64 0, .int .i64 r, .bool false, .int .i64 0]) := fun r => rfl
      generalize pick % (1 + (T : Int)) = r at *
      have heq := fun w => eqlP ⟨⟨⟨0, 0, 0⟩, 1, 0, r, false⟩, 0⟩ ⟨⟨⟨0, 0, 0⟩, 1, 0, r, false⟩, 0⟩ w
      rw [(hqv r).out] at heq
      simp only [decide_true] at heq
      clear hpk hI hse'
      go_upto_region 10 with (go_at_call 13; refine hp1.out.mono ?_; rintro e w2 ⟨rfl, hq⟩)
      obtain ⟨hb2, hbw2⟩ := hq.out
      have hbx : Hid (BoxP (w2.alloc (.cells (Pc.cells ⟨⟨⟨0, 0, 0⟩, 1, 0, r, false⟩, 0⟩) 37)) w2.heap.size ⟨⟨⟨0, 0, 0⟩, 1, 0, r, false⟩, 0⟩) := BoxP.mk w2 _
      have hb3 := Lib.hid (hbi.out _ (w2.alloc (.cells (Pc.cells ⟨⟨⟨0, 0, 0⟩, 1, 0, r, false⟩, 0⟩) 37)) hb2 ((Below.refl _ w2).alloc (Nat.le_refl _) _))
      rw [(hqc r).out] at hbx hb3
      generalize w2.heap.size = B2 at *
      generalize w2.alloc (.cells #[.int .i64 0, .int .i64 0, .int .i64 0, .int .i64 1, .int .i64 0, .int .i64 r, .bool false, .int .i64 0] 37) = W2 at *
      have hp3 := Lib.hid (hp2.out W2 hb3.out)
      clear hq hb2 hbw2 hp1 hp2 hb3
      go_upto_region 11 with (go_at_call 13; refine hp3.out.mono ?_; rintro e w4 ⟨rfl, hq⟩)
      obtain ⟨hb4, hbw4⟩ := hq.out
      have hby : Hid (BoxP (w4.alloc (.cells (Pc.cells ⟨⟨⟨0, 0, 0⟩, 1, 0, r, false⟩, 0⟩) 37)) w4.heap.size ⟨⟨⟨0, 0, 0⟩, 1, 0, r, false⟩, 0⟩) := BoxP.mk w4 _
      have hbx4 := Lib.hid ((hbx.out.below hbw4).below ((Below.refl _ w4).alloc (Nat.le_refl _) (.cells (Pc.cells ⟨⟨⟨0, 0, 0⟩, 1, 0, r, false⟩, 0⟩) 37)))
      have hl4 := Lib.hid (hln.out _ (hbi.out _ (w4.alloc (.cells (Pc.cells ⟨⟨⟨0, 0, 0⟩, 1, 0, r, false⟩, 0⟩) 37)) hb4 ((Below.refl _ w4).alloc (Nat.le_refl _) _)))
      rw [(hqc r).out] at hby hbx4 hl4
      generalize w4.heap.size = B4 at *
      generalize w4.alloc (.cells #[.int .i64 0, .int .i64 0, .int .i64 0, .int .i64 1, .int .i64 0, .int .i64 r, .bool false, .int .i64 0] 37) = W4 at *
      obtain ⟨hl5, hb5⟩ := hl4.out
      have hb5' := Lib.hid hb5
      obtain ⟨x0, x1, x2, x3, x4, x5, x6, x7⟩ := hbx4.out.at
      obtain ⟨y0, y1, y2, y3, y4, y5, y6, y7⟩ := hby.out.at
      simp only [Nat.zero_add] at x0 x1 x2 x3 x4 x5 x6 x7 y0 y1 y2 y3 y4 y5 y6 y7
      clear hq hb4 hbw4 hl4 hbx hbx4 hby hp3 hln hbi hqv hqc hb5
      go_wp2_with (go_at_call 21; refine hl5.mono ?_; rintro e w6 ⟨rfl, rfl⟩)
      go_ret
      exact ⟨rfl, hb5'.out⟩
end Go.Proofs.Ytjbammgnkegecaa
