/-
  The law of a way's room.
-/
import Derived.Test.YtjbammgnkegecaaKM
namespace Go.Proofs.Ytjbammgnkegecaa
open Go.ChangeShapes Go.WideShapes Go.ChangeAt Go.Shelf Go.RowKit Go.Lib Go.Sort Go.Deep
set_option linter.unusedVariables false
set_option maxRecDepth 4000

/-- What stands between two rounds. -/
def RoomI (w : World) (hb : Nat) (top : Int) (n : Nat) (wr : World) : Prop := ∃ S L, Fresh w wr hb S ⟨2, 3, top, false⟩ L ∧ L.length = n
/-- A round's parcel. -/
def rp (i : Nat) (an : Bool) : Pc := ⟨⟨⟨(i : Int), 2, 0⟩, 3, 0, (i : Int), an⟩, 0⟩
theorem putC_room (top : Int) (n i : Nat) (an : Bool) (hi : i < 200) : putC ⟨2, 3, top, false⟩ n (rp i an) = if an = false ∧ top ≤ (n : Int) then 9 else 0 := by
  have hc : chkM (rp i an).m = 0 := by
    unfold chkM rp
    simp
    omega
  unfold putC
  rw [if_neg (fun e => by rcases e with e | e | e <;> first | exact e hc | exact e rfl)]
  rfl
theorem RoomI.below {w wr w' : World} {hb n : Nat} {top : Int} (h : RoomI w hb top n wr) (hb' : Below wr.heap.size wr w') : RoomI w hb top n w' := by
  obtain ⟨S, L, hF, hl⟩ := h
  exact ⟨S, L, hF.below hb', hl⟩
theorem RoomI.b {w wr : World} {hb n : Nat} {top : Int} (h : RoomI w hb top n wr) : Below w.heap.size w wr := by obtain ⟨S, L, hF, _⟩ := h; exact hF.b
theorem RoomI.put {w wr : World} {hb n : Nat} {top : Int} (h : RoomI w hb top n wr) (i : Nat) (an : Bool) (hi : i < 200) (hn : n ≤ i) : Calls Try.prog 11 #[.pointer (some ⟨hb, 0, none⟩), (rp i an).val] wr fun e w' => e = .returned (.int .i64 (if an = false ∧ top ≤ (n : Int) then 9 else 0)) ∧ Hid (RoomI w hb top (if an = false ∧ top ≤ (n : Int) then n else n + 1) w') := by
  obtain ⟨S, L, hF, hl⟩ := h
  have hc := putC_room top n i an hi
  rw [← hl] at hc
  rw [← hl, ← hc]
  refine (hF.put (rp i an) (by omega)).mono ?_
  rintro e w' ⟨he, h2⟩
  refine ⟨he, ?_⟩
  obtain ⟨S', h3, h4⟩ := h2.out
  refine ⟨S', _, h3, ?_⟩
  unfold putL
  rw [hc]
  split
  · rw [if_neg (by omega)]
  · rw [if_pos rfl]; simp
theorem RoomI.len {w wr : World} {hb n : Nat} {top : Int} (h : RoomI w hb top n wr) : Calls Try.prog 21 #[.pointer (some ⟨hb, 0, none⟩)] wr fun e w' => e = .returned (.int .i64 n) ∧ wr = w' := by
  obtain ⟨S, L, hF, hl⟩ := h
  rw [← hl]
  exact lkLen_any hF.at'
theorem RoomI.room {w wr : World} {hb n : Nat} {top : Int} (h : RoomI w hb top n wr) (hn : n < 100000) : Calls Try.prog 17 #[.pointer (some ⟨hb, 0, none⟩)] wr fun e w' => e = .returned (.int .i64 (max 0 (top - (n : Int)))) ∧ Hid (RoomI w hb top n w') := by
  obtain ⟨S, L, hF, hl⟩ := h
  rw [← hl]
  refine (lkRoom_any hF.at' (by omega)).mono ?_
  rintro e w' ⟨he, h2⟩
  refine ⟨?_, S, L, hF.below h2, rfl⟩
  rw [he]
  unfold roomN
  rw [Int.max_comm]

set_option maxHeartbeats 8000000 in
set_option maxRecDepth 100000 in
theorem lawLinkRoom {w : World} (most : Nat) (hmost : most < 256) {a : Option Addr} {len cap : Nat} (h : Bools w a len cap) : Calls Try.prog 5 #[.int .u8 most, .slice a len cap] w fun e w' => e = .returned (.bool true) ∧ Below w.heap.size w w' := by
  obtain ⟨T, hT⟩ : ∃ T : Nat, T = most % 20 := ⟨_, rfl⟩
  have hT20 : T < 20 := by omega
  have hq1 : Int.tmod (most : Int) 20 = (T : Int) := by rw [hT, Int.tmod_eq_emod_of_nonneg (by omega)]; omega
  have hq2 : IntKind.u8.wrap (T : Int) = (T : Int) := IntWalk.u8_in _ (by omega)
  have hq3 : IntKind.i64.wrap (T : Int) = (T : Int) := IntWalk.i64_in _ (by omega)
  have hq4 : IntKind.i64.wrap (1 + (T : Int)) = 1 + (T : Int) := IntWalk.i64_in _ (by omega)
  have hn := fun w => lkNew_yes (f := 2) (t := 3) (k := 1) (b := false) (most := 1 + (T : Int)) ⟨by omega, by omega, by omega⟩ w
  unfold lkV at hn
  obtain ⟨h1, h2, h3⟩ := h
  have h3' := Lib.hid h3
  have hcm : len ≤ 9223372036854775807 ∧ cap ≤ 9223372036854775807 := by unfold maxLen at h2; omega
  obtain ⟨hlm, hcm⟩ := hcm
  clear h3 h2 hT
  have hst : Hid (∀ hb w1, Hid (Made w ⟨2, 3, 1 + (T : Int), false⟩ hb w1) → RoomI w hb (1 + (T : Int)) 0 w1) := Lib.hid (fun hb w1 h => ⟨_, [], Fresh.mk' h.out, rfl⟩)
  go_enter Try.func5, Try.ntmps5
  go_wp2_with (first
    | (go_at_call 9; refine (hn w).mono ?_; rintro e w1 ⟨hb, rfl, hM⟩; have hI0 := Lib.hid (hst.out hb w1 hM)))
  clear hM
  go_loopw [9, 8] (fun s9 s8 wr => ∃ i n : Nat, i ≤ len ∧ i ≤ 200 ∧ n ≤ i ∧ s9 = .int .i64 i ∧ s8 = .int .i64 n ∧ Hid (RoomI w hb (1 + (T : Int)) n wr)) (fun s9 _ _ => len - (intOf s9).toNat)
  case atStart => exact ⟨0, 0, Nat.zero_le _, by omega, Nat.le_refl _, rfl, rfl, hI0⟩
  case round =>
    obtain ⟨i, n, hi1, hi2, hni, rfl, rfl, hI⟩ := hrel
    clear hI0
    by_cases hil : i < len
    · have hz1 : (i : Int) < (len : Int) := by omega
      by_cases hi5 : i < 200
      · have hz2 : (i : Int) < 200 := by omega
        obtain ⟨b, off, rfl, hbw, hop⟩ : ∃ b off, a = some ⟨b, off, none⟩ ∧ b < w.heap.size ∧ ∀ i, i < len → ∃ z : Bool, w.cell? ⟨b, off + i, none⟩ = some (.bool z) := by
          rcases h3'.out with h0 | hx
          · omega
          · exact hx
        obtain ⟨an, hcz⟩ := hop i hil
        have hcw : Hid (∀ w', Below w.heap.size w w' → w'.cell? ⟨b, off + i, none⟩ = some (.bool an)) := Lib.hid (fun w' h => (h.cell (p := ⟨b, _, none⟩) hbw).trans hcz)
        have c0 := hcw.out wr hI.out.b
        have hpv : Hid ((rp i an).val = .agg #[.int .i64 (i : Int), .int .i64 2, .int .i64 0, .int .i64 3, .int .i64 0, .int .i64 (i : Int), .bool an, .int .i64 0]) := rfl
        have hput := Lib.hid (hI.out.put i an hi5 hni)
        rw [hpv.out] at hput
        have hw1 : IntKind.i64.wrap ((i : Int) + 1) = (i : Int) + 1 := IntWalk.i64_in _ (by omega)
        have hw2 : IntKind.i64.wrap ((n : Int) + 1) = (n : Int) + 1 := IntWalk.i64_in _ (by omega)
        have hw3 : IntKind.i64.wrap (1 + (T : Int) - ((n : Int) + 1)) = 1 + (T : Int) - ((n : Int) + 1) := IntWalk.i64_in _ (by omega)
        have hw4 : IntKind.i64.wrap (1 + (T : Int) - (n : Int)) = 1 + (T : Int) - (n : Int) := IntWalk.i64_in _ (by omega)
        have hnext : Hid (∀ m w2, m < 1000 → Hid (RoomI w hb (1 + (T : Int)) m w2) → w2.cell? ⟨b, off + i, none⟩ = some (.bool an) ∧ (Calls Try.prog 21 #[.pointer (some ⟨hb, 0, none⟩)] w2 fun e w' => e = .returned (.int .i64 m) ∧ w2 = w') ∧ Calls Try.prog 17 #[.pointer (some ⟨hb, 0, none⟩)] w2 fun e w' => e = .returned (.int .i64 (max 0 (1 + (T : Int) - (m : Int)))) ∧ Hid (RoomI w hb (1 + (T : Int)) m w')) := Lib.hid (fun m w2 hm h => ⟨hcw.out w2 h.out.b, h.out.len, h.out.room (by omega)⟩)
        clear hpv hcz hop hcw hI
        by_cases hfull : 1 + (T : Int) ≤ (n : Int)
        · cases an with
          | true =>
            rw [if_neg (by simp), if_neg (by simp)] at hput
            go_wp2_with (first
              | (go_at_call 11; refine hput.out.mono ?_; rintro e w2 ⟨rfl, hq⟩; obtain ⟨c2, hL2, hR2⟩ := hnext.out _ w2 (by omega) hq)
              | (go_at_call 21; refine hL2.mono ?_; rintro e w3 ⟨rfl, rfl⟩)
              | (go_at_call 17; refine hR2.mono ?_; rintro e w4 ⟨rfl, hI4⟩))
            go_roundw
            case rel => exact ⟨i + 1, n + 1, by omega, by omega, by omega, by go_num, by go_num, hI4⟩
            case measure => simp [intOf]; omega
          | false =>
            rw [if_pos ⟨rfl, hfull⟩, if_pos ⟨rfl, hfull⟩] at hput
            go_wp2_with (first
              | (go_at_call 11; refine hput.out.mono ?_; rintro e w2 ⟨rfl, hq⟩; obtain ⟨c2, hL2, hR2⟩ := hnext.out _ w2 (by omega) hq)
              | (go_at_call 21; refine hL2.mono ?_; rintro e w3 ⟨rfl, rfl⟩)
              | (go_at_call 17; refine hR2.mono ?_; rintro e w4 ⟨rfl, hI4⟩))
            go_roundw
            case rel => exact ⟨i + 1, n, by omega, by omega, by omega, by go_num, rfl, hI4⟩
            case measure => simp [intOf]; omega
        · have hcond : ¬ (an = false ∧ 1 + (T : Int) ≤ (n : Int)) := fun e => hfull e.2
          rw [if_neg hcond, if_neg hcond] at hput
          clear hcond
          cases an with
          | true =>
            go_wp2_with (first
              | (go_at_call 11; refine hput.out.mono ?_; rintro e w2 ⟨rfl, hq⟩; obtain ⟨c2, hL2, hR2⟩ := hnext.out _ w2 (by omega) hq)
              | (go_at_call 21; refine hL2.mono ?_; rintro e w3 ⟨rfl, rfl⟩)
              | (go_at_call 17; refine hR2.mono ?_; rintro e w4 ⟨rfl, hI4⟩))
            go_roundw
            case rel => exact ⟨i + 1, n + 1, by omega, by omega, by omega, by go_num, by go_num, hI4⟩
            case measure => simp [intOf]; omega
          | false =>
            go_wp2_with (first
              | (go_at_call 11; refine hput.out.mono ?_; rintro e w2 ⟨rfl, hq⟩; obtain ⟨c2, hL2, hR2⟩ := hnext.out _ w2 (by omega) hq)
              | (go_at_call 21; refine hL2.mono ?_; rintro e w3 ⟨rfl, rfl⟩)
              | (go_at_call 17; refine hR2.mono ?_; rintro e w4 ⟨rfl, hI4⟩))
            go_roundw
            case rel => exact ⟨i + 1, n + 1, by omega, by omega, by omega, by go_num, by go_num, hI4⟩
            case measure => simp [intOf]; omega
      · have hz2 : ¬ (i : Int) < 200 := by omega
        have haw := awake_any11 wr
        have hB := Lib.hid hI.out.b
        clear hI
        go_wp2_with (go_at_call 24; refine haw.mono ?_; rintro e w3 ⟨rfl, hb3⟩; have hb3' := Lib.hid (hB.out.trans (hb3.mono hB.out.size)); clear hb3)
        go_ret
        exact ⟨rfl, hb3'.out⟩
    · have hz1 : ¬ (i : Int) < (len : Int) := by omega
      have haw := awake_any11 wr
      have hB := Lib.hid hI.out.b
      clear hI
      go_wp2_with (go_at_call 24; refine haw.mono ?_; rintro e w3 ⟨rfl, hb3⟩; have hb3' := Lib.hid (hB.out.trans (hb3.mono hB.out.size)); clear hb3)
      go_ret
      exact ⟨rfl, hb3'.out⟩
end Go.Proofs.Ytjbammgnkegecaa
