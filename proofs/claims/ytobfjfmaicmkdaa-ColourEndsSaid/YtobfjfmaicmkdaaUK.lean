
/-
  The law of a round where nothing is on its way.
-/
import Derived.Test.YtobfjfmaicmkdaaUJ
import Derived.Test.YtobfjfmaicmkdaaGZ
import Derived.Deep.CutBlock
namespace Go.Proofs.Ytobfjfmaicmkdaa
open Go.ChangeShapes Go.WideShapes Go.ChangeAt Go.Shelf Go.RowKit Go.Lib Go.Sort Go.Deep Col
set_option linter.unusedVariables false
set_option linter.unusedSimpArgs false
set_option maxRecDepth 4000

theorem infoPT : (Try.prog.info? 33).map (fun i => (i.zero, i.size, i.bytes)) = some (some (.pointer none), 1, 8) := by kernel_rfl
/-- The least of the first of these numbers. -/
def lows (z : Nat → Int) : Nat → Int
  | 0 => 4611686018427387904
  | i + 1 => min (lows z i) (z i)
theorem lows_le (z : Nat → Int) : ∀ i, lows z i ≤ 4611686018427387904
  | 0 => Int.le_refl _
  | i + 1 => by have := lows_le z i; rw [lows]; omega
/-- The token of a first round, of a second one; the tallies of the first. -/
def St1 (N i : Nat) : Tk := if i = N then ⟨N, 0, true, 0, 4611686018427387904⟩ else ⟨N, i, false, 0, 4611686018427387904⟩
def St2 (z : Nat → Int) (N i : Nat) : Tk := if i = N then ⟨N, 0, false, 0, 4611686018427387904⟩ else ⟨N, i, true, 0, lows z i⟩
def ts1 (i : Nat) : Nat → Ta := fun j => ⟨decide (j < i), 0, 0, 4611686018427387904⟩
theorem ts1_zero (n : Nat) : upd (ts1 0) n Ta.new = ts1 0 := by
  funext j
  by_cases e : j = n
  · subst e; rw [upd_same]; simp [ts1, Ta.new, never]
  · rw [upd_ne _ _ e]
theorem ts1_more (i : Nat) : upd (ts1 i) i ⟨true, 0, 0, 4611686018427387904⟩ = ts1 (i + 1) := by
  funext j
  by_cases e : j = i
  · subst e; rw [upd_same]; simp [ts1]
  · rw [upd_ne _ _ e]
    simp only [ts1, Ta.mk.injEq, and_true]
    by_cases h : j < i
    · rw [decide_eq_true h, decide_eq_true (by omega)]
    · rw [decide_eq_false h, decide_eq_false (by omega)]
theorem ts1_same {N i : Nat} (h : i < N) : upd (ts1 N) i ⟨true, 0, 0, 4611686018427387904⟩ = ts1 N := by
  funext j
  by_cases e : j = i
  · subst e; rw [upd_same]; simp [ts1, h]
  · rw [upd_ne _ _ e]
theorem St1.lt {N i : Nat} (h : i < N) : St1 N i = ⟨N, i, false, 0, 4611686018427387904⟩ := by unfold St1; rw [if_neg (by omega)]
theorem St2.lt {z : Nat → Int} {N i : Nat} (h : i < N) : St2 z N i = ⟨N, i, true, 0, lows z i⟩ := by unfold St2; rw [if_neg (by omega)]
theorem vis1 {N i : Nat} (h : i < N) (l : Int) : (St1 N i).vis (ts1 i i) l = (St1 N (i + 1), ⟨true, 0, 0, 4611686018427387904⟩, 0, false) := by
  have h1 : ts1 i i = ⟨false, 0, 0, 4611686018427387904⟩ := by simp [ts1]
  rw [h1, St1.lt h]
  unfold St1 Tk.vis
  dsimp only
  rw [if_pos rfl]
  by_cases e : i + 1 = N
  · rw [if_pos e, if_pos e]; rfl
  · rw [if_neg e, if_neg e]; rfl
theorem vis2 {z : Nat → Int} {N i : Nat} (h : i < N) : (St2 z N i).vis (ts1 N i) (z i) = (St2 z N (i + 1), ⟨true, 0, 0, 4611686018427387904⟩, if i + 1 = N then lows z N else 0, decide (i + 1 = N)) := by
  have h1 : ts1 N i = ⟨true, 0, 0, 4611686018427387904⟩ := by simp [ts1, h]
  have h2 : min (min (lows z i) (z i)) 4611686018427387904 = lows z (i + 1) := by have := lows_le z (i + 1); rw [lows] at this ⊢; omega
  rw [h1, St2.lt h]
  unfold St2 Tk.vis
  dsimp only
  rw [if_neg (by decide)]
  by_cases e : i + 1 = N
  · rw [if_pos e, if_pos e, if_pos e]
    subst e
    rw [h2]
    simp [Ta.net]
  · rw [if_neg e, if_neg e, if_neg e, h2]
    simp [Ta.net, e]
theorem St1.ok {N i : Nat} (h : i < N) (h2 : N ≤ 16) : (St1 N i).ok := by
  rw [St1.lt h]
  exact ⟨h, h2, by dsimp only; decide, by dsimp only; decide⟩
theorem St2.ok {z : Nat → Int} {N i : Nat} (h : i < N) (h2 : N ≤ 16) : (St2 z N i).ok := by
  rw [St2.lt h]
  exact ⟨h, h2, by dsimp only; decide, by dsimp only; decide⟩
theorem ts1.small (i j : Nat) : Ta.small (ts1 i j) := ⟨⟨by show (-2305843009213693952 : Int) < 0; decide, by show (0 : Int) < 2305843009213693952; decide⟩, by show (-2305843009213693952 : Int) < 0; decide, by show (0 : Int) < 2305843009213693952; decide⟩
theorem st_cnt1 (N i : Nat) : (St1 N i).cnt = decide (i = N) := by unfold St1; by_cases e : i = N <;> simp [e]
set_option maxHeartbeats 16000000 in
set_option maxRecDepth 100000 in
theorem lawColourEnds {w : World} {a : Option Addr} {len cap : Nat} (h : Nums .i64 w a len cap) : Calls Try.prog 5 #[.slice a len cap] w fun e w' => e = .returned (.bool true) ∧ Below w.heap.size w w' := by
  have mixed := mixed
  obtain ⟨hcap1, hcap2, hops⟩ := h
  have hmx : len ≤ 9223372036854775807 ∧ cap ≤ 9223372036854775807 := by unfold maxLen at hcap2; omega
  obtain ⟨hmx, hcm⟩ := hmx
  obtain ⟨i0, hi0, hz0, hz1, hz2⟩ := info_parts infoPT
  obtain ⟨N, hN, hN1, hN2, hN3⟩ : ∃ N : Nat, min (len : Int) 16 = (N : Int) ∧ N ≤ 16 ∧ N ≤ len ∧ (N = 0 → len = 0) := ⟨min len 16, by omega, by omega, by omega, fun e => by omega⟩
  by_cases hN0 : N = 0
  · subst hN0
    clear hops hcap1 hcap2 hi0 hz0 hz1 hz2
    have haw := Lib.hid (awake_any12 w)
    go_enter Try.func5, Try.ntmps5
    go_wp2_with (go_at_call 9; refine haw.out.mono ?_; rintro e w' ⟨rfl, hb5⟩; have hb5' := Lib.hid hb5; clear hb5)
    go_ret
    exact ⟨rfl, hb5'.out⟩
  · obtain ⟨zb, zo, rfl, hzb, hz⟩ : ∃ b off, a = some ⟨b, off, none⟩ ∧ b < w.heap.size ∧ ∀ i, i < len → ∃ z : Int, (Lit.int .i64 z).wf = true ∧ w.cell? ⟨b, off + i, none⟩ = some (.int .i64 z) := by
      rcases hops with h0 | hx
      · exact absurd (Nat.eq_zero_of_le_zero (by omega)) hN0
      · exact hx
    obtain ⟨z, hzc⟩ : ∃ z : Nat → Int, Hid (∀ i, i < len → w.cell? ⟨zb, zo + i, none⟩ = some (.int .i64 (z i))) := by
      refine ⟨fun i => if hi : i < len then (hz i hi).choose else 0, Lib.hid (fun i hi => ?_)⟩
      dsimp only
      rw [dif_pos hi]
      exact (hz i hi).choose_spec.2
    have hNz : ¬ (N : Int) = 0 := by omega
    have htk := Lib.hid (coToken_yes (N : Int) ⟨by omega, by omega⟩ w)
    rw [Int.toNat_natCast] at htk
    clear hops hz hcap1 hcap2 hN3 hN0
    have hN' := Lib.hid hN
    clear hN
    go_enter Try.func5, Try.ntmps5
    go_upto_region 1 with fail
    go_cut [3] from 17 to 19 (fun s3 wx => s3 = .int .i64 (N : Int) ∧ wx = w)
    case first =>
      clear hNz
      go_wp2_with fail
      go_meet
      case rel => exact ⟨congrArg (Value.int IntKind.i64) hN'.out, rfl⟩
    obtain ⟨rfl, hwc⟩ := hcut
    obtain rfl : w = wc := hwc.symm
    clear hN'
    go_upto_region 5 with (go_at_call 7; refine htk.out.mono ?_; rintro e w1 ⟨kb, X, rfl, hM⟩)
    have hL0 : Hid (Lw w (.slice none 0 0) kb 0 (ts1 0) (Tk.new N) w1) := Lw.start hM.out.1 hM.out.2.1 hM.out.2.2 _
    clear hM htk
    go_wp2_with fail
    go_loopw [6, 7] (fun s6 s7 wr => ∃ (i : Nat) (v : Value), i ≤ N ∧ s7 = .int .i64 i ∧ s6 = v ∧ Hid (Lw w v kb i (ts1 0) (Tk.new N) wr)) (fun _ s7 _ => N - (intOf s7).toNat)
    case atStart => exact ⟨0, _, Nat.zero_le _, rfl, rfl, hL0⟩
    case round =>
      obtain ⟨i, v, hi, rfl, hv, hM⟩ := hrel
      obtain rfl := hv.symm
      clear hL0
      by_cases hiN : i < N
      · have hz : (i : Int) < (N : Int) := by omega
        have hiN' := Lib.hid hiN
        clear hiN
        obtain ⟨σ, pa, q1, q2, q3⟩ := hM.out
        have hmo : Hid (∀ p S w2, Hid (TaAt w2 p S Ta.new ∧ (∀ j, S j → wr.heap.size ≤ j) ∧ Below wr.heap.size wr w2) → RowAt (w2.alloc (.cells #[.pointer (some ⟨p, 0, none⟩)] 33)) 33 1 v i (ptrs pa i) ∧ ∀ g off cap w4, Hid (RowIn w4 33 1 g off (i + 1) cap (ptrs pa i ++ [Value.pointer (some ⟨p, 0, none⟩)])) → Hid (KeptOff (fun j => v.ownBlock = some j) (w2.alloc (.cells #[.pointer (some ⟨p, 0, none⟩)] 33)) w4) →
            Hid (v.ownBlock = some g ∨ (w2.alloc (.cells #[.pointer (some ⟨p, 0, none⟩)] 33)).heap.size ≤ g) → Hid (Lw w (.slice (some ⟨g, off, none⟩) (i + 1) cap) kb (i + 1) (ts1 0) (Tk.new N) w4)) := Lib.hid (fun p S w2 h => by
          have hm := Lw.more q1 q2 q3 h.out.1 h.out.2.1 h.out.2.2
          rw [ts1_zero] at hm
          exact ⟨hm.1, fun g off cap w4 x1 x2 x3 => hm.2 g off cap w4 x1.out x2.out x3.out⟩)
        clear q1 q2 q3 hM
        have hw1 : IntKind.i64.wrap ((i : Int) + 1) = (i : Int) + 1 := IntWalk.i64_in _ (by omega)
        go_upto_region 10 with (first
          | (go_at_call 10; refine (coNew_any wr).mono ?_; rintro e w2 ⟨p, S, rfl, hN⟩; have hm := hmo.out p S w2 hN; have hav := Lib.hid hm.1; have hm2 := Lib.hid hm.2; clear hm hN)
          | (at_builtin; refine wpList_append_row rfl (.tmp 35) (.tmp 37) 31 rfl hav.out i0 _ 8 Try.underlying31 hi0 hz0 hz1 hz2 rfl (by omega) rfl ⟨w2.heap.size, 0, none⟩ 1 [.pointer (some ⟨p, 0, none⟩)] rfl rfl (cell_one_new _ _ _) (by simp [Value.oneCell']) (by unfold maxLen; omega) (by omega) ?_; intro g off cap w4 r1 r2 r3; have hnx := Lib.hid (hm2.out g off cap w4 r1 r2 r3); clear r1 r2 r3))
        clear hmo hav hm2
        go_wp2_with fail
        go_roundw
        case rel => (repeat apply Exists.intro); first | exact ⟨⟨hiN'.out, by go_num, rfl, hnx.out⟩, rfl⟩ | exact ⟨hiN'.out, by go_num, rfl, hnx.out, rfl⟩ | exact ⟨hiN'.out, by go_num, rfl, hnx.out⟩
        case measure => have := hiN'.out; simp [intOf]; omega
      · obtain rfl : N = i := by omega
        have hz : ¬ (N : Int) < (N : Int) := by omega
        have hNp : 0 < N := by omega
        have hL2 : Hid (Lw w v kb N (ts1 0) (St1 N 0) wr) := by rw [St1.lt hNp]; exact hM
        clear hM hi hi0 hz0 hz1 hz2
        go_wp2_with fail
        clear hz
        go_loopw [8, 9] (fun s8 s9 wr => ∃ i : Nat, i ≤ N ∧ s9 = .int .i64 i ∧ s8 = .int .i64 (lows z i) ∧ Hid (Lw w v kb N (ts1 i) (St1 N i) wr)) (fun _ s9 _ => N - (intOf s9).toNat)
        case atStart => exact ⟨0, Nat.zero_le _, rfl, rfl, hL2⟩
        case round =>
          clear hL2
          obtain ⟨i, hi, rfl, rfl, hM⟩ := hrel
          by_cases hiN : i < N
          · have hz : (i : Int) < (N : Int) := by omega
            have hiN' := Lib.hid hiN
            have hMd := hM.out.below ((Below.refl _ wr).drew)
            obtain ⟨g, off, cap2, pa, rfl, hgl, hcell, hc2, hvis⟩ := hMd.cell hNp
            have hV := hvis i (z i) hiN (St1.ok hiN hN1) (ts1.small _ _)
            rw [vis1 hiN] at hV
            dsimp only at hV
            rw [ts1_more] at hV
            have hV' := Lib.hid hV
            have p0 := hcell i hiN
            have z0 : wr.drew.cell? ⟨zb, zo + i, none⟩ = some (.int .i64 (z i)) := (hMd.b.cell (p := ⟨zb, _, none⟩) hzb).trans (hzc.out i (by omega))
            have y0 : wr.cell? ⟨zb, zo + i, none⟩ = some (.int .i64 (z i)) := (hM.out.b.cell (p := ⟨zb, _, none⟩) hzb).trans (hzc.out i (by omega))
            clear hV hvis hcell hMd hM hiN
            have hzl : (i : Int) < (len : Int) := by omega
            have hw1 : IntKind.i64.wrap ((i : Int) + 1) = (i : Int) + 1 := IntWalk.i64_in _ (by omega)
            have hwN : IntKind.i64.wrap ((N : Int) - 1) = (N : Int) - 1 := IntWalk.i64_in _ (by omega)
            go_upto_region 17 with fail
            have hSd : wr.drew.cell? ⟨g, off + i, none⟩ = some (.pointer (some ⟨pa i, 0, none⟩)) ∧ wr.drew.cell? ⟨zb, zo + i, none⟩ = some (.int .i64 (z i)) := ⟨p0, z0⟩
            refine wp_region_Z (fun w' => w'.cell? ⟨g, off + i, none⟩ = some (.pointer (some ⟨pa i, 0, none⟩)) ∧ w'.cell? ⟨zb, zo + i, none⟩ = some (.int .i64 (z i))) 9 (by kernel_rfl) ?_
            refine wpAnyZ_take (i := 0) (oi := { dst := some 51, op := Op.move (Operand.tmp 4), type := 23, pos := "law.go:188", after := #[], guard := none }) (v := ?zv0_1) rfl (by kernel_rfl) (by kernel_rfl) (by kernel_rfl) (fun _ _ _ h => h) (by decide) (Or.inl ⟨by rfl, ?zy0_1⟩) (fun _ => hSd) ?zrest0_1
            case zy0_1 =>
              intro w _
              go_simp
              try with_reducible rfl
            try simp only [Act.put, List.setIfInBounds_toArray, List.set_cons_zero, List.set_cons_succ]
            refine wpAnyZ_take (i := 1) (oi := { dst := some 52, op := Op.move (Operand.tmp 6), type := 31, pos := "law.go:188", after := #[], guard := none }) (v := ?zv1_2) rfl (by kernel_rfl) (by kernel_rfl) (by kernel_rfl) (fun _ _ _ h => h) (by decide) (Or.inl ⟨by rfl, ?zy1_2⟩) (fun _ => hSd) ?zrest1_2
            case zy1_2 =>
              intro w _
              go_simp
              try with_reducible rfl
            try simp only [Act.put, List.setIfInBounds_toArray, List.set_cons_zero, List.set_cons_succ]
            refine wpAnyZ_take (i := 2) (oi := { dst := some 53, op := Op.move (Operand.tmp 9), type := 3, pos := "law.go:188", after := #[], guard := none }) (v := ?zv2_3) rfl (by kernel_rfl) (by kernel_rfl) (by kernel_rfl) (fun _ _ _ h => h) (by decide) (Or.inl ⟨by rfl, ?zy2_3⟩) (fun _ => hSd) ?zrest2_3
            case zy2_3 =>
              intro w _
              go_simp
              try with_reducible rfl
            try simp only [Act.put, List.setIfInBounds_toArray, List.set_cons_zero, List.set_cons_succ]
            refine wpAnyZ_take (i := 3) (oi := { dst := some 54, op := Op.indexAddr 31 (Operand.tmp 52) (Operand.tmp 53), type := 0, pos := "law.go:188", after := #[{ on := 1, ground := Ground.data }, { on := 2, ground := Ground.data }], guard := none }) (v := ?zv3_4) rfl (by kernel_rfl) (by kernel_rfl) (by kernel_rfl) (fun _ _ _ h => h) (by decide) (Or.inl ⟨by rfl, ?zy3_4⟩) (fun _ => hSd) ?zrest3_4
            case zy3_4 =>
              intro w _
              go_simp
              try with_reducible rfl
            try simp only [Act.put, List.setIfInBounds_toArray, List.set_cons_zero, List.set_cons_succ]
            refine wpAnyZ_load (i := 4) (oi := { dst := some 55, op := Op.load 33 (Operand.tmp 54), type := 33, pos := "law.go:188", after := #[{ on := 3, ground := Ground.data }], guard := none }) (v := ?zv4_5) rfl (by kernel_rfl) (by kernel_rfl) (by kernel_rfl) (fun _ _ _ h => h) (by decide) (by kernel_rfl) (by kernel_rfl) (Or.inl ⟨by rfl, ?zy4_5⟩) hSd ?zrest4_5
            case zy4_5 =>
              intro w hSw
              have c := hSw.1
              go_simp
              try with_reducible rfl
            try simp only [Act.put, List.setIfInBounds_toArray, List.set_cons_zero, List.set_cons_succ]
            refine wpAnyZ_take (i := 5) (oi := { dst := some 56, op := Op.move (Operand.tmp 0), type := 58, pos := "law.go:188", after := #[], guard := none }) (v := ?zv5_6) rfl (by kernel_rfl) (by kernel_rfl) (by kernel_rfl) (fun _ _ _ h => h) (by decide) (Or.inl ⟨by rfl, ?zy5_6⟩) (fun _ => hSd) ?zrest5_6
            case zy5_6 =>
              intro w _
              go_simp
              try with_reducible rfl
            try simp only [Act.put, List.setIfInBounds_toArray, List.set_cons_zero, List.set_cons_succ]
            refine wpAnyZ_take (i := 6) (oi := { dst := some 57, op := Op.move (Operand.tmp 9), type := 3, pos := "law.go:188", after := #[], guard := none }) (v := ?zv6_7) rfl (by kernel_rfl) (by kernel_rfl) (by kernel_rfl) (fun _ _ _ h => h) (by decide) (Or.inl ⟨by rfl, ?zy6_7⟩) (fun _ => hSd) ?zrest6_7
            case zy6_7 =>
              intro w _
              go_simp
              try with_reducible rfl
            try simp only [Act.put, List.setIfInBounds_toArray, List.set_cons_zero, List.set_cons_succ]
            refine wpAnyZ_take (i := 7) (oi := { dst := some 58, op := Op.indexAddr 58 (Operand.tmp 56) (Operand.tmp 57), type := 0, pos := "law.go:188", after := #[{ on := 5, ground := Ground.data }, { on := 6, ground := Ground.data }], guard := none }) (v := ?zv7_8) rfl (by kernel_rfl) (by kernel_rfl) (by kernel_rfl) (fun _ _ _ h => h) (by decide) (Or.inl ⟨by rfl, ?zy7_8⟩) (fun _ => hSd) ?zrest7_8
            case zy7_8 =>
              intro w _
              go_simp
              try with_reducible rfl
            try simp only [Act.put, List.setIfInBounds_toArray, List.set_cons_zero, List.set_cons_succ]
            refine wpAnyZ_load (i := 8) (oi := { dst := some 59, op := Op.load 2 (Operand.tmp 58), type := 2, pos := "law.go:188", after := #[{ on := 7, ground := Ground.data }], guard := none }) (v := ?zv8_9) rfl (by kernel_rfl) (by kernel_rfl) (by kernel_rfl) (fun _ _ _ h => h) (by decide) (by kernel_rfl) (by kernel_rfl) (Or.inl ⟨by rfl, ?zy8_9⟩) hSd ?zrest8_9
            case zy8_9 =>
              intro w hSw
              have c := hSw.2
              go_simp
              try with_reducible rfl
            try simp only [Act.put, List.setIfInBounds_toArray, List.set_cons_zero, List.set_cons_succ]
            refine wpAnyZ_ready (rs := [9]) (by kernel_rfl) (by simp) ?_
            refine AllReadyZ.cons (o := { dst := some 60, op := Op.call { callee := Callee.value (Operand.func 19), args := #[Operand.tmp 51, Operand.tmp 55, Operand.tmp 59], argTypes := #[23, 33, 2] }, type := 46, pos := "law.go:188", after := #[{ on := 0, ground := Ground.data }, { on := 4, ground := Ground.data }, { on := 8, ground := Ground.data }], guard := none }) rfl (fun K hK => ?_) AllReadyZ.nil
            go_simp
            refine hV'.out.mono ?_
            rintro x w2 ⟨rfl, hnx⟩
            refine hK.out _ _ (fun h => absurd h (by decide)) ?_
            clear hK K
            try simp only [Act.put, List.setIfInBounds_toArray, List.set_cons_zero, List.set_cons_succ]
            refine wpAnyZ_take (i := 10) (oi := { dst := some 50, op := Op.move (Operand.tmp 60), type := 46, pos := "law.go:188", after := #[{ on := 9, ground := Ground.data }], guard := none }) (v := ?zv10_10) rfl (by kernel_rfl) (by kernel_rfl) (by kernel_rfl) (fun _ _ _ h => h) (by decide) (Or.inl ⟨by rfl, ?zy10_10⟩) (fun h => absurd h (by decide)) ?zrest10_10
            case zy10_10 =>
              intro w _
              go_simp
              try with_reducible rfl
            try simp only [Act.put, List.setIfInBounds_toArray, List.set_cons_zero, List.set_cons_succ]
            refine wpAnyZ_take (i := 11) (oi := { dst := some 61, op := Op.extract (Operand.tmp 50) 0, type := 2, pos := "law.go:188", after := #[{ on := 10, ground := Ground.data }], guard := none }) (v := ?zv11_11) rfl (by kernel_rfl) (by kernel_rfl) (by kernel_rfl) (fun _ _ _ h => h) (by decide) (Or.inl ⟨by rfl, ?zy11_11⟩) (fun h => absurd h (by decide)) ?zrest11_11
            case zy11_11 =>
              intro w _
              go_simp
              try with_reducible rfl
            try simp only [Act.put, List.setIfInBounds_toArray, List.set_cons_zero, List.set_cons_succ]
            refine wpAnyZ_take (i := 12) (oi := { dst := some 62, op := Op.extract (Operand.tmp 50) 1, type := 4, pos := "law.go:188", after := #[{ on := 10, ground := Ground.data }, { on := 14, ground := Ground.gcOnly Departure.lateStores }], guard := none }) (v := ?zv12_12) rfl (by kernel_rfl) (by kernel_rfl) (by kernel_rfl) (fun _ _ _ h => h) (by decide) (Or.inl ⟨by rfl, ?zy12_12⟩) (fun h => absurd h (by decide)) ?zrest12_12
            case zy12_12 =>
              intro w _
              go_simp
              try with_reducible rfl
            try simp only [Act.put, List.setIfInBounds_toArray, List.set_cons_zero, List.set_cons_succ]
            refine wpAnyZ_take (i := 13) (oi := { dst := some 63, op := Op.extract (Operand.tmp 50) 2, type := 24, pos := "law.go:188", after := #[{ on := 10, ground := Ground.data }, { on := 15, ground := Ground.gcOnly Departure.lateStores }], guard := none }) (v := ?zv13_13) rfl (by kernel_rfl) (by kernel_rfl) (by kernel_rfl) (fun _ _ _ h => h) (by decide) (Or.inl ⟨by rfl, ?zy13_13⟩) (fun h => absurd h (by decide)) ?zrest13_13
            case zy13_13 =>
              intro w _
              go_simp
              try with_reducible rfl
            try simp only [Act.put, List.setIfInBounds_toArray, List.set_cons_zero, List.set_cons_succ]
            refine wpAnyZ_take (i := 14) (oi := { dst := some 10, op := Op.assign (Operand.tmp 61), type := 2, pos := "law.go:188", after := #[{ on := 11, ground := Ground.data }, { on := 9, ground := Ground.chain }, { on := 0, ground := Ground.phase }, { on := 1, ground := Ground.phase }, { on := 2, ground := Ground.phase }, { on := 3, ground := Ground.phase }, { on := 4, ground := Ground.phase }, { on := 5, ground := Ground.phase }, { on := 6, ground := Ground.phase }, { on := 7, ground := Ground.phase }, { on := 8, ground := Ground.phase }, { on := 9, ground := Ground.phase }, { on := 10, ground := Ground.phase }, { on := 11, ground := Ground.phase }, { on := 12, ground := Ground.textOnly Departure.lateStores }, { on := 13, ground := Ground.textOnly Departure.lateStores }], guard := none }) (v := ?zv14_14) rfl (by kernel_rfl) (by kernel_rfl) (by kernel_rfl) (fun _ _ _ h => h) (by decide) (Or.inl ⟨by rfl, ?zy14_14⟩) (fun h => absurd h (by decide)) ?zrest14_14
            case zy14_14 =>
              intro w _
              go_simp
              try with_reducible rfl
            try simp only [Act.put, List.setIfInBounds_toArray, List.set_cons_zero, List.set_cons_succ]
            refine wpAnyZ_take (i := 15) (oi := { dst := some 11, op := Op.assign (Operand.tmp 62), type := 4, pos := "law.go:188", after := #[{ on := 12, ground := Ground.data }, { on := 14, ground := Ground.chain }, { on := 0, ground := Ground.phase }, { on := 1, ground := Ground.phase }, { on := 2, ground := Ground.phase }, { on := 3, ground := Ground.phase }, { on := 4, ground := Ground.phase }, { on := 5, ground := Ground.phase }, { on := 6, ground := Ground.phase }, { on := 7, ground := Ground.phase }, { on := 8, ground := Ground.phase }, { on := 9, ground := Ground.phase }, { on := 10, ground := Ground.phase }, { on := 11, ground := Ground.phase }, { on := 12, ground := Ground.phase }, { on := 13, ground := Ground.textOnly Departure.lateStores }, { on := 14, ground := Ground.phase }], guard := none }) (v := ?zv15_15) rfl (by kernel_rfl) (by kernel_rfl) (by kernel_rfl) (fun _ _ _ h => h) (by decide) (Or.inl ⟨by rfl, ?zy15_15⟩) (fun h => absurd h (by decide)) ?zrest15_15
            case zy15_15 =>
              intro w _
              go_simp
              try with_reducible rfl
            try simp only [Act.put, List.setIfInBounds_toArray, List.set_cons_zero, List.set_cons_succ]
            refine wpAnyZ_take (i := 16) (oi := { dst := some 12, op := Op.assign (Operand.tmp 63), type := 24, pos := "law.go:188", after := #[{ on := 13, ground := Ground.data }, { on := 15, ground := Ground.chain }, { on := 0, ground := Ground.phase }, { on := 1, ground := Ground.phase }, { on := 2, ground := Ground.phase }, { on := 3, ground := Ground.phase }, { on := 4, ground := Ground.phase }, { on := 5, ground := Ground.phase }, { on := 6, ground := Ground.phase }, { on := 7, ground := Ground.phase }, { on := 8, ground := Ground.phase }, { on := 9, ground := Ground.phase }, { on := 10, ground := Ground.phase }, { on := 11, ground := Ground.phase }, { on := 12, ground := Ground.phase }, { on := 13, ground := Ground.phase }, { on := 14, ground := Ground.phase }, { on := 15, ground := Ground.phase }], guard := none }) (v := ?zv16_16) rfl (by kernel_rfl) (by kernel_rfl) (by kernel_rfl) (fun _ _ _ h => h) (by decide) (Or.inl ⟨by rfl, ?zy16_16⟩) (fun h => absurd h (by decide)) ?zrest16_16
            case zy16_16 =>
              intro w _
              go_simp
              try with_reducible rfl
            try simp only [Act.put, List.setIfInBounds_toArray, List.set_cons_zero, List.set_cons_succ]
            refine wpAnyZ_done (by kernel_rfl) ?_ _
            clear hSd p0 z0 y0 hV' hzl
            by_cases hl : i + 1 = N
            · have hbq : ((i : Int) == (N : Int) - 1) = true := by simp; omega
              have hcn := Lib.hid hnx.out.tok.2
              rw [st_cnt1, decide_eq_true hl] at hcn
              clear hl
              go_wp2_with (go_at_call 24; refine hcn.out.mono ?_; rintro e w3 ⟨rfl, hb3⟩; have hnx3 := Lib.hid (hnx.out.below hb3); clear hb3)
              go_roundw
              case rel => (repeat apply Exists.intro); first | exact ⟨⟨hiN'.out, by go_num, rfl, hnx3.out⟩, rfl⟩ | exact ⟨hiN'.out, by go_num, rfl, hnx3.out, rfl⟩ | exact ⟨hiN'.out, by go_num, rfl, hnx3.out⟩
              case measure => have := hiN'.out; simp [intOf]; omega
            · have hbq : ((i : Int) == (N : Int) - 1) = false := by simp; omega
              have hcn := Lib.hid hnx.out.tok.2
              rw [st_cnt1, decide_eq_false hl] at hcn
              clear hl
              go_wp2_with (go_at_call 24; refine hcn.out.mono ?_; rintro e w3 ⟨rfl, hb3⟩; have hnx3 := Lib.hid (hnx.out.below hb3); clear hb3)
              go_roundw
              case rel => (repeat apply Exists.intro); first | exact ⟨⟨hiN'.out, by go_num, rfl, hnx3.out⟩, rfl⟩ | exact ⟨hiN'.out, by go_num, rfl, hnx3.out, rfl⟩ | exact ⟨hiN'.out, by go_num, rfl, hnx3.out⟩
              case measure => have := hiN'.out; simp [intOf]; omega
          · obtain rfl : N = i := by omega
            have hz : ¬ (N : Int) < (N : Int) := by omega
            have hL3 : Hid (Lw w v kb N (ts1 N) (St2 z N 0) wr) := by
              have e : St1 N N = St2 z N 0 := by rw [St2.lt hNp]; unfold St1; rw [if_pos rfl]; rfl
              rw [← e]; exact hM
            clear hM hi
            generalize hWt : lows z N = Wt at *
            have hWt' := Lib.hid hWt
            clear hWt
            go_wp2_with fail
            clear hz
            go_loopw [13] (fun s13 wr => ∃ i : Nat, i ≤ N ∧ s13 = .int .i64 i ∧ Hid (Lw w v kb N (ts1 N) (St2 z N i) wr)) (fun s13 _ => N - (intOf s13).toNat)
            case atStart => exact ⟨0, Nat.zero_le _, rfl, hL3⟩
            case round =>
              clear hL3
              obtain ⟨i, hi, rfl, hM⟩ := hrel
              by_cases hiN : i < N
              · have hz : (i : Int) < (N : Int) := by omega
                have hiN' := Lib.hid hiN
                have hMd := hM.out.below ((Below.refl _ wr).drew)
                obtain ⟨g, off, cap2, pa, rfl, hgl, hcell, hc2, hvis⟩ := hMd.cell hNp
                have hV := hvis i (z i) hiN (St2.ok hiN hN1) (ts1.small _ _)
                rw [vis2 hiN] at hV
                dsimp only at hV
                rw [ts1_same hiN] at hV
                rw [hWt'.out] at hV
                have hV' := Lib.hid hV
                have p0 := hcell i hiN
                have z0 : wr.drew.cell? ⟨zb, zo + i, none⟩ = some (.int .i64 (z i)) := (hMd.b.cell (p := ⟨zb, _, none⟩) hzb).trans (hzc.out i (by omega))
                have y0 : wr.cell? ⟨zb, zo + i, none⟩ = some (.int .i64 (z i)) := (hM.out.b.cell (p := ⟨zb, _, none⟩) hzb).trans (hzc.out i (by omega))
                clear hV hvis hcell hMd hM hiN
                have hzl : (i : Int) < (len : Int) := by omega
                have hw1 : IntKind.i64.wrap ((i : Int) + 1) = (i : Int) + 1 := IntWalk.i64_in _ (by omega)
                have hwN : IntKind.i64.wrap ((N : Int) - 1) = (N : Int) - 1 := IntWalk.i64_in _ (by omega)
                go_upto_region 23 with fail
                have hSd : wr.drew.cell? ⟨g, off + i, none⟩ = some (.pointer (some ⟨pa i, 0, none⟩)) ∧ wr.drew.cell? ⟨zb, zo + i, none⟩ = some (.int .i64 (z i)) := ⟨p0, z0⟩
                refine wp_region_Z (fun w' => w'.cell? ⟨g, off + i, none⟩ = some (.pointer (some ⟨pa i, 0, none⟩)) ∧ w'.cell? ⟨zb, zo + i, none⟩ = some (.int .i64 (z i))) 9 (by kernel_rfl) ?_
                refine wpAnyZ_take (i := 0) (oi := { dst := some 84, op := Op.move (Operand.tmp 4), type := 23, pos := "law.go:194", after := #[], guard := none }) (v := ?zv0_17) rfl (by kernel_rfl) (by kernel_rfl) (by kernel_rfl) (fun _ _ _ h => h) (by decide) (Or.inl ⟨by rfl, ?zy0_17⟩) (fun _ => hSd) ?zrest0_17
                case zy0_17 =>
                  intro w _
                  go_simp
                  try with_reducible rfl
                try simp only [Act.put, List.setIfInBounds_toArray, List.set_cons_zero, List.set_cons_succ]
                refine wpAnyZ_take (i := 1) (oi := { dst := some 85, op := Op.move (Operand.tmp 6), type := 31, pos := "law.go:194", after := #[], guard := none }) (v := ?zv1_18) rfl (by kernel_rfl) (by kernel_rfl) (by kernel_rfl) (fun _ _ _ h => h) (by decide) (Or.inl ⟨by rfl, ?zy1_18⟩) (fun _ => hSd) ?zrest1_18
                case zy1_18 =>
                  intro w _
                  go_simp
                  try with_reducible rfl
                try simp only [Act.put, List.setIfInBounds_toArray, List.set_cons_zero, List.set_cons_succ]
                refine wpAnyZ_take (i := 2) (oi := { dst := some 86, op := Op.move (Operand.tmp 13), type := 3, pos := "law.go:194", after := #[], guard := none }) (v := ?zv2_19) rfl (by kernel_rfl) (by kernel_rfl) (by kernel_rfl) (fun _ _ _ h => h) (by decide) (Or.inl ⟨by rfl, ?zy2_19⟩) (fun _ => hSd) ?zrest2_19
                case zy2_19 =>
                  intro w _
                  go_simp
                  try with_reducible rfl
                try simp only [Act.put, List.setIfInBounds_toArray, List.set_cons_zero, List.set_cons_succ]
                refine wpAnyZ_take (i := 3) (oi := { dst := some 87, op := Op.indexAddr 31 (Operand.tmp 85) (Operand.tmp 86), type := 0, pos := "law.go:194", after := #[{ on := 1, ground := Ground.data }, { on := 2, ground := Ground.data }], guard := none }) (v := ?zv3_20) rfl (by kernel_rfl) (by kernel_rfl) (by kernel_rfl) (fun _ _ _ h => h) (by decide) (Or.inl ⟨by rfl, ?zy3_20⟩) (fun _ => hSd) ?zrest3_20
                case zy3_20 =>
                  intro w _
                  go_simp
                  try with_reducible rfl
                try simp only [Act.put, List.setIfInBounds_toArray, List.set_cons_zero, List.set_cons_succ]
                refine wpAnyZ_load (i := 4) (oi := { dst := some 88, op := Op.load 33 (Operand.tmp 87), type := 33, pos := "law.go:194", after := #[{ on := 3, ground := Ground.data }], guard := none }) (v := ?zv4_21) rfl (by kernel_rfl) (by kernel_rfl) (by kernel_rfl) (fun _ _ _ h => h) (by decide) (by kernel_rfl) (by kernel_rfl) (Or.inl ⟨by rfl, ?zy4_21⟩) hSd ?zrest4_21
                case zy4_21 =>
                  intro w hSw
                  have c := hSw.1
                  go_simp
                  try with_reducible rfl
                try simp only [Act.put, List.setIfInBounds_toArray, List.set_cons_zero, List.set_cons_succ]
                refine wpAnyZ_take (i := 5) (oi := { dst := some 89, op := Op.move (Operand.tmp 0), type := 58, pos := "law.go:194", after := #[], guard := none }) (v := ?zv5_22) rfl (by kernel_rfl) (by kernel_rfl) (by kernel_rfl) (fun _ _ _ h => h) (by decide) (Or.inl ⟨by rfl, ?zy5_22⟩) (fun _ => hSd) ?zrest5_22
                case zy5_22 =>
                  intro w _
                  go_simp
                  try with_reducible rfl
                try simp only [Act.put, List.setIfInBounds_toArray, List.set_cons_zero, List.set_cons_succ]
                refine wpAnyZ_take (i := 6) (oi := { dst := some 90, op := Op.move (Operand.tmp 13), type := 3, pos := "law.go:194", after := #[], guard := none }) (v := ?zv6_23) rfl (by kernel_rfl) (by kernel_rfl) (by kernel_rfl) (fun _ _ _ h => h) (by decide) (Or.inl ⟨by rfl, ?zy6_23⟩) (fun _ => hSd) ?zrest6_23
                case zy6_23 =>
                  intro w _
                  go_simp
                  try with_reducible rfl
                try simp only [Act.put, List.setIfInBounds_toArray, List.set_cons_zero, List.set_cons_succ]
                refine wpAnyZ_take (i := 7) (oi := { dst := some 91, op := Op.indexAddr 58 (Operand.tmp 89) (Operand.tmp 90), type := 0, pos := "law.go:194", after := #[{ on := 5, ground := Ground.data }, { on := 6, ground := Ground.data }], guard := none }) (v := ?zv7_24) rfl (by kernel_rfl) (by kernel_rfl) (by kernel_rfl) (fun _ _ _ h => h) (by decide) (Or.inl ⟨by rfl, ?zy7_24⟩) (fun _ => hSd) ?zrest7_24
                case zy7_24 =>
                  intro w _
                  go_simp
                  try with_reducible rfl
                try simp only [Act.put, List.setIfInBounds_toArray, List.set_cons_zero, List.set_cons_succ]
                refine wpAnyZ_load (i := 8) (oi := { dst := some 92, op := Op.load 2 (Operand.tmp 91), type := 2, pos := "law.go:194", after := #[{ on := 7, ground := Ground.data }], guard := none }) (v := ?zv8_25) rfl (by kernel_rfl) (by kernel_rfl) (by kernel_rfl) (fun _ _ _ h => h) (by decide) (by kernel_rfl) (by kernel_rfl) (Or.inl ⟨by rfl, ?zy8_25⟩) hSd ?zrest8_25
                case zy8_25 =>
                  intro w hSw
                  have c := hSw.2
                  go_simp
                  try with_reducible rfl
                try simp only [Act.put, List.setIfInBounds_toArray, List.set_cons_zero, List.set_cons_succ]
                refine wpAnyZ_ready (rs := [9]) (by kernel_rfl) (by simp) ?_
                refine AllReadyZ.cons (o := { dst := some 93, op := Op.call { callee := Callee.value (Operand.func 19), args := #[Operand.tmp 84, Operand.tmp 88, Operand.tmp 92], argTypes := #[23, 33, 2] }, type := 46, pos := "law.go:194", after := #[{ on := 0, ground := Ground.data }, { on := 4, ground := Ground.data }, { on := 8, ground := Ground.data }], guard := none }) rfl (fun K hK => ?_) AllReadyZ.nil
                go_simp
                refine hV'.out.mono ?_
                rintro x w2 ⟨rfl, hnx⟩
                refine hK.out _ _ (fun h => absurd h (by decide)) ?_
                clear hK K
                try simp only [Act.put, List.setIfInBounds_toArray, List.set_cons_zero, List.set_cons_succ]
                refine wpAnyZ_take (i := 10) (oi := { dst := some 83, op := Op.move (Operand.tmp 93), type := 46, pos := "law.go:194", after := #[{ on := 9, ground := Ground.data }], guard := none }) (v := ?zv10_26) rfl (by kernel_rfl) (by kernel_rfl) (by kernel_rfl) (fun _ _ _ h => h) (by decide) (Or.inl ⟨by rfl, ?zy10_26⟩) (fun h => absurd h (by decide)) ?zrest10_26
                case zy10_26 =>
                  intro w _
                  go_simp
                  try with_reducible rfl
                try simp only [Act.put, List.setIfInBounds_toArray, List.set_cons_zero, List.set_cons_succ]
                refine wpAnyZ_take (i := 11) (oi := { dst := some 94, op := Op.extract (Operand.tmp 83) 0, type := 2, pos := "law.go:194", after := #[{ on := 10, ground := Ground.data }], guard := none }) (v := ?zv11_27) rfl (by kernel_rfl) (by kernel_rfl) (by kernel_rfl) (fun _ _ _ h => h) (by decide) (Or.inl ⟨by rfl, ?zy11_27⟩) (fun h => absurd h (by decide)) ?zrest11_27
                case zy11_27 =>
                  intro w _
                  go_simp
                  try with_reducible rfl
                try simp only [Act.put, List.setIfInBounds_toArray, List.set_cons_zero, List.set_cons_succ]
                refine wpAnyZ_take (i := 12) (oi := { dst := some 95, op := Op.extract (Operand.tmp 83) 1, type := 4, pos := "law.go:194", after := #[{ on := 10, ground := Ground.data }, { on := 14, ground := Ground.gcOnly Departure.lateStores }], guard := none }) (v := ?zv12_28) rfl (by kernel_rfl) (by kernel_rfl) (by kernel_rfl) (fun _ _ _ h => h) (by decide) (Or.inl ⟨by rfl, ?zy12_28⟩) (fun h => absurd h (by decide)) ?zrest12_28
                case zy12_28 =>
                  intro w _
                  go_simp
                  try with_reducible rfl
                try simp only [Act.put, List.setIfInBounds_toArray, List.set_cons_zero, List.set_cons_succ]
                refine wpAnyZ_take (i := 13) (oi := { dst := some 96, op := Op.extract (Operand.tmp 83) 2, type := 24, pos := "law.go:194", after := #[{ on := 10, ground := Ground.data }, { on := 15, ground := Ground.gcOnly Departure.lateStores }], guard := none }) (v := ?zv13_29) rfl (by kernel_rfl) (by kernel_rfl) (by kernel_rfl) (fun _ _ _ h => h) (by decide) (Or.inl ⟨by rfl, ?zy13_29⟩) (fun h => absurd h (by decide)) ?zrest13_29
                case zy13_29 =>
                  intro w _
                  go_simp
                  try with_reducible rfl
                try simp only [Act.put, List.setIfInBounds_toArray, List.set_cons_zero, List.set_cons_succ]
                refine wpAnyZ_take (i := 14) (oi := { dst := some 14, op := Op.assign (Operand.tmp 94), type := 2, pos := "law.go:194", after := #[{ on := 11, ground := Ground.data }, { on := 9, ground := Ground.chain }, { on := 0, ground := Ground.phase }, { on := 1, ground := Ground.phase }, { on := 2, ground := Ground.phase }, { on := 3, ground := Ground.phase }, { on := 4, ground := Ground.phase }, { on := 5, ground := Ground.phase }, { on := 6, ground := Ground.phase }, { on := 7, ground := Ground.phase }, { on := 8, ground := Ground.phase }, { on := 9, ground := Ground.phase }, { on := 10, ground := Ground.phase }, { on := 11, ground := Ground.phase }, { on := 12, ground := Ground.textOnly Departure.lateStores }, { on := 13, ground := Ground.textOnly Departure.lateStores }], guard := none }) (v := ?zv14_30) rfl (by kernel_rfl) (by kernel_rfl) (by kernel_rfl) (fun _ _ _ h => h) (by decide) (Or.inl ⟨by rfl, ?zy14_30⟩) (fun h => absurd h (by decide)) ?zrest14_30
                case zy14_30 =>
                  intro w _
                  go_simp
                  try with_reducible rfl
                try simp only [Act.put, List.setIfInBounds_toArray, List.set_cons_zero, List.set_cons_succ]
                refine wpAnyZ_take (i := 15) (oi := { dst := some 15, op := Op.assign (Operand.tmp 95), type := 4, pos := "law.go:194", after := #[{ on := 12, ground := Ground.data }, { on := 14, ground := Ground.chain }, { on := 0, ground := Ground.phase }, { on := 1, ground := Ground.phase }, { on := 2, ground := Ground.phase }, { on := 3, ground := Ground.phase }, { on := 4, ground := Ground.phase }, { on := 5, ground := Ground.phase }, { on := 6, ground := Ground.phase }, { on := 7, ground := Ground.phase }, { on := 8, ground := Ground.phase }, { on := 9, ground := Ground.phase }, { on := 10, ground := Ground.phase }, { on := 11, ground := Ground.phase }, { on := 12, ground := Ground.phase }, { on := 13, ground := Ground.textOnly Departure.lateStores }, { on := 14, ground := Ground.phase }], guard := none }) (v := ?zv15_31) rfl (by kernel_rfl) (by kernel_rfl) (by kernel_rfl) (fun _ _ _ h => h) (by decide) (Or.inl ⟨by rfl, ?zy15_31⟩) (fun h => absurd h (by decide)) ?zrest15_31
                case zy15_31 =>
                  intro w _
                  go_simp
                  try with_reducible rfl
                try simp only [Act.put, List.setIfInBounds_toArray, List.set_cons_zero, List.set_cons_succ]
                refine wpAnyZ_take (i := 16) (oi := { dst := some 16, op := Op.assign (Operand.tmp 96), type := 24, pos := "law.go:194", after := #[{ on := 13, ground := Ground.data }, { on := 15, ground := Ground.chain }, { on := 0, ground := Ground.phase }, { on := 1, ground := Ground.phase }, { on := 2, ground := Ground.phase }, { on := 3, ground := Ground.phase }, { on := 4, ground := Ground.phase }, { on := 5, ground := Ground.phase }, { on := 6, ground := Ground.phase }, { on := 7, ground := Ground.phase }, { on := 8, ground := Ground.phase }, { on := 9, ground := Ground.phase }, { on := 10, ground := Ground.phase }, { on := 11, ground := Ground.phase }, { on := 12, ground := Ground.phase }, { on := 13, ground := Ground.phase }, { on := 14, ground := Ground.phase }, { on := 15, ground := Ground.phase }], guard := none }) (v := ?zv16_32) rfl (by kernel_rfl) (by kernel_rfl) (by kernel_rfl) (fun _ _ _ h => h) (by decide) (Or.inl ⟨by rfl, ?zy16_32⟩) (fun h => absurd h (by decide)) ?zrest16_32
                case zy16_32 =>
                  intro w _
                  go_simp
                  try with_reducible rfl
                try simp only [Act.put, List.setIfInBounds_toArray, List.set_cons_zero, List.set_cons_succ]
                refine wpAnyZ_done (by kernel_rfl) ?_ _
                clear hSd p0 z0 y0 hV' hzl
                by_cases hl : i + 1 = N
                · have hbq : ((i : Int) == (N : Int) - 1) = true := by simp; omega
                  rw [if_pos hl, decide_eq_true hl]
                  clear hl
                  go_wp2_with fail
                  go_roundw
                  case rel => (repeat apply Exists.intro); first | exact ⟨⟨hiN'.out, by go_num, hnx.out⟩, rfl⟩ | exact ⟨hiN'.out, by go_num, hnx.out, rfl⟩ | exact ⟨hiN'.out, by go_num, hnx.out⟩
                  case measure => have := hiN'.out; simp [intOf]; omega
                · have hbq : ((i : Int) == (N : Int) - 1) = false := by simp; omega
                  rw [if_neg hl, decide_eq_false hl]
                  clear hl
                  go_wp2_with fail
                  go_roundw
                  case rel => (repeat apply Exists.intro); first | exact ⟨⟨hiN'.out, by go_num, hnx.out⟩, rfl⟩ | exact ⟨hiN'.out, by go_num, hnx.out, rfl⟩ | exact ⟨hiN'.out, by go_num, hnx.out⟩
                  case measure => have := hiN'.out; simp [intOf]; omega
              · obtain rfl : N = i := by omega
                have hz : ¬ (N : Int) < (N : Int) := by omega
                have hat := Lib.hid hM.out.tok.1
                have hct : Hid (∀ w5, Below wr.heap.size wr w5 → (Calls Try.prog 24 #[.pointer (some ⟨kb, 0, none⟩)] w5 fun e w' => e = .returned (.bool false) ∧ Hid (Below w.heap.size w w'))) := Lib.hid (fun w5 hb => by
                  have h5 := hM.out.below hb
                  have h6 := h5.tok.2
                  rw [show (St2 z N N).cnt = false by unfold St2; rw [if_pos rfl]] at h6
                  refine h6.mono ?_
                  rintro e w6 ⟨he, hb6⟩
                  exact ⟨he, h5.b.trans (hb6.mono h5.b.size)⟩)
                rw [show (St2 z N N).at' = 0 by unfold St2; rw [if_pos rfl]] at hat
                clear hM hi hNz
                go_wp2_with (first
                  | (go_at_call 18; refine hat.out.mono ?_; rintro e w5 ⟨rfl, hb5⟩; have hct5 := Lib.hid (hct.out w5 hb5); clear hb5)
                  | (go_at_call 24; refine hct5.out.mono ?_; rintro e w6 ⟨rfl, hb6⟩))
                go_ret
                exact ⟨rfl, hb6.out⟩
end Go.Proofs.Ytobfjfmaicmkdaa
