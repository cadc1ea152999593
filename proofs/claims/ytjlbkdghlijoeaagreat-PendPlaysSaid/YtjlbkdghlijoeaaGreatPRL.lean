/-
  The law that a Pend plays as the document's under any script of calls.
-/
import Derived.Test.YtjlbkdghlijoeaaGreatPRK
import Derived.LoopTactic
import Derived.Deep.RegionHeld3
namespace Go.Proofs.YtjlbkdghlijoeaaGreat
open Go.ChangeShapes Go.WideShapes Go.ChangeAt Go.Shelf Go.RowKit Go.Lib Go.Sort Go.Deep Go.Maps
set_option linter.unusedVariables false

theorem awake9_any (w : World) : Calls Tryz.prog 12 #[] w fun e w' => e = .returned (.bool true) ∧ Below w.heap.size w w' := by
  have hnew := pdNew_any w (kd := 2) (K := 2) rfl
  have hkd : Hid (∀ pb w1, PAt w1 pb 2 0 (fun k => w.heap.size ≤ k ∧ k < w1.heap.size) [] ∧ Below w.heap.size w w1 → Calls Tryz.prog 9 #[.pointer (some ⟨pb, 0, none⟩)] w1 fun e w2 => e = .returned (.int .i64 2) ∧ w1 = w2) := fun pb w1 h => pdKind_any h.1
  go_enter Tryz.func12, Tryz.ntmps12
  go_wp2_with (first
    | (go_at_call 5; (with_reducible refine hnew.mono ?_); rintro e w1 ⟨pb, rfl, hQ1⟩; have hk := hkd.out pb w1 hQ1.out)
    | (go_at_call 9; (with_reducible refine hk.mono ?_); rintro e w2 ⟨rfl, rfl⟩))
  go_ret
  exact ⟨rfl, hQ1.out.2⟩

set_option maxHeartbeats 40000000 in
set_option maxRecDepth 100000 in
theorem lawPendPlays_some (kd : Int) {K : Nat} (hk : KindOf kd = some K) {w : World} {a : Option Addr} {len cap : Nat} (h : Ops w a len cap) :
    Calls Tryz.prog 3 #[.int .i64 kd, .slice a len cap] w fun e w' => e = .returned (.bool true) ∧ Below w.heap.size w w' := by
  have mixed := mixed
  obtain ⟨hcap1, hcap2, hreach, hops⟩ := h
  have hmx : len ≤ 9223372036854775807 ∧ cap ≤ 9223372036854775807 := by unfold maxLen at hcap2; omega
  obtain ⟨hmx, hcm⟩ := hmx
  have hops' := Lib.hid hops
  have hreach' := Lib.hid hreach
  clear hops hreach
  go_enter Tryz.func3, Tryz.ntmps3
  have hnew := pdNew_any w hk
  have hrn := fun w1 => r9New_any w1 hk
  clear hk
  go_upto_region 3 with (first
    | (go_at_call 5; (with_reducible refine hnew.mono ?_); rintro e w1 ⟨pb, rfl, hQ1⟩)
    | (go_at_call 6; (with_reducible refine (hrn w1).mono ?_); rintro e w2 ⟨dp, rfl, hD2⟩; have hD2' := Lib.hid hD2; clear hD2))
  have hM0 : Hid (∃ K T, Mixed w pb dp w1.heap.size K K 16384 (fun _ => False) T T w2) := by
    obtain ⟨hq, hb1⟩ := hQ1.out
    obtain ⟨hd, hdp, hrow, hb2⟩ := hD2'.out.out
    exact ⟨K, [], fun k => w.heap.size ≤ k ∧ k < w1.heap.size, none, 0, (hq.below hb2).mono (by omega), hd, .inl ⟨rfl, rfl⟩, (fun g hg => ⟨hg.1, by omega, by omega, fun e => e⟩), .inl rfl, hb1.trans (hb2.mono hb1.size), hb1.size, hdp, hrow, fun k hk => hk.elim⟩
  clear hQ1 hD2' hnew hrn
  generalize w1.heap.size = rb at hM0 ⊢
  go_wp2
  go_loopw [9] (fun s5 wr => ∃ i : Nat, i ≤ len ∧ s5 = .int .i64 i ∧ Hid (∃ K T, Mixed w pb dp rb K K (i + 16384) (fun _ => False) T T wr)) (fun s5 _ => len - (intOf s5).toNat)
  case atStart => exact ⟨0, Nat.zero_le _, rfl, hM0⟩
  case round =>
    obtain ⟨i, hi, rfl, hM⟩ := hrel
    clear hM0
    by_cases hil : i < len
    · have hz : (i : Int) < (len : Int) := by omega
      obtain ⟨b, off, rfl, hbw, hop⟩ : ∃ b off, a = some ⟨b, off, none⟩ ∧ b < w.heap.size ∧ ∀ i, i < len → ∃ (what nn : Int) (m : M), m.fits ∧ OpC w b (off + i * 9) what nn m := by
        rcases hops'.out with h0 | hx
        · omega
        · exact hx
      obtain ⟨what, nn, m, hf, hc⟩ := hop i hil
      obtain ⟨K1, T, hT⟩ := hM.out
      have hB := hT.b
      obtain ⟨k0, kn, k1, k2, k3, k4, k5, k6, k7⟩ := hc
      have hcell : ∀ {o : Nat} {v : Value}, w.cell? ⟨b, o, none⟩ = some v → wr.cell? ⟨b, o, none⟩ = some v := fun h => (hB.cell (p := ⟨b, _, none⟩) hbw).trans h
      have x0 := hcell k0
      have xn := hcell kn
      have x1 := hcell k1
      have x2 := hcell k2
      have x3 := hcell k3
      have x4 := hcell k4
      have x5 := hcell k5
      have x6 := hcell k6
      have x7 := hcell k7
      have hp := play_any (hT.below (Below.refl _ wr).drew) nn m hf what (by omega) (by have := hreach'.out; unfold maxLen at *; omega)
      have hn1 : i + 16384 + 1 = i + 1 + 16384 := by omega
      rw [hn1] at hp
      have hp' := Lib.hid hp
      have hi' := Lib.hid hil
      clear k0 kn k1 k2 k3 k4 k5 k6 k7 hcell hop hM hT hB hf hp hops' hreach' hn1 hcap1 hcap2
      by_cases h1 : i < 100
      · have hz1 : (i : Int) < 100 := by omega
        go_upto_region 8 with (fail)
        refine wp_region_held_drew (S := fun _ => True) (by kernel_rfl) trivial (fun hHeld => ?_)
        refine wpAnyH_take (i := 0) (oi := { dst := some 40, op := Op.move (Operand.tmp 5), type := 23, pos := "law.go:68", after := #[], guard := none }) (v := ?vv0_1) rfl (by kernel_rfl) (by kernel_rfl) (by kernel_rfl) (fun _ _ _ h => h) (Or.inl ⟨by rfl, ?hy0_1⟩) (by assumption) ?rest0_1
        case hy0_1 =>
          intro w hSw
          try dsimp only at hSw
          go_simp
          try with_reducible rfl
        try simp only [Act.put, List.setIfInBounds_toArray, List.set_cons_zero, List.set_cons_succ]
        refine wpAnyH_take (i := 1) (oi := { dst := some 41, op := Op.move (Operand.tmp 7), type := 27, pos := "law.go:68", after := #[], guard := none }) (v := ?vv1_2) rfl (by kernel_rfl) (by kernel_rfl) (by kernel_rfl) (fun _ _ _ h => h) (Or.inl ⟨by rfl, ?hy1_2⟩) (by assumption) ?rest1_2
        case hy1_2 =>
          intro w hSw
          try dsimp only at hSw
          go_simp
          try with_reducible rfl
        try simp only [Act.put, List.setIfInBounds_toArray, List.set_cons_zero, List.set_cons_succ]
        refine wpAnyH_take (i := 2) (oi := { dst := some 42, op := Op.move (Operand.tmp 1), type := 22, pos := "law.go:68", after := #[], guard := none }) (v := ?vv2_3) rfl (by kernel_rfl) (by kernel_rfl) (by kernel_rfl) (fun _ _ _ h => h) (Or.inl ⟨by rfl, ?hy2_3⟩) (by assumption) ?rest2_3
        case hy2_3 =>
          intro w hSw
          try dsimp only at hSw
          go_simp
          try with_reducible rfl
        try simp only [Act.put, List.setIfInBounds_toArray, List.set_cons_zero, List.set_cons_succ]
        refine wpAnyH_take (i := 3) (oi := { dst := some 43, op := Op.move (Operand.tmp 9), type := 3, pos := "law.go:68", after := #[], guard := none }) (v := ?vv3_4) rfl (by kernel_rfl) (by kernel_rfl) (by kernel_rfl) (fun _ _ _ h => h) (Or.inl ⟨by rfl, ?hy3_4⟩) (by assumption) ?rest3_4
        case hy3_4 =>
          intro w hSw
          try dsimp only at hSw
          go_simp
          try with_reducible rfl
        try simp only [Act.put, List.setIfInBounds_toArray, List.set_cons_zero, List.set_cons_succ]
        refine wpAnyH_take (i := 4) (oi := { dst := some 44, op := Op.indexAddr 22 (Operand.tmp 42) (Operand.tmp 43), type := 0, pos := "law.go:68", after := #[{ on := 2, ground := Ground.data }, { on := 3, ground := Ground.data }], guard := none }) (v := ?vv4_5) rfl (by kernel_rfl) (by kernel_rfl) (by kernel_rfl) (fun _ _ _ h => h) (Or.inl ⟨by rfl, ?hy4_5⟩) (by assumption) ?rest4_5
        case hy4_5 =>
          intro w hSw
          try dsimp only at hSw
          go_simp
          try with_reducible rfl
        try simp only [Act.put, List.setIfInBounds_toArray, List.set_cons_zero, List.set_cons_succ]
        refine wpAnyH_ready (rs := [5]) (by kernel_rfl) (by simp) ?_
        refine AllReadyH.cons (o := { dst := some 45, op := Op.load 36 (Operand.tmp 44), type := 36, pos := "law.go:68", after := #[{ on := 4, ground := Ground.data }], guard := none }) rfl (fun K hK => ?_) AllReadyH.nil
        go_simp
        refine hK.out _ _ trivial (fun hHeld => ?_)
        clear hK K
        try simp only [Act.put, List.setIfInBounds_toArray, List.set_cons_zero, List.set_cons_succ]
        refine wpAnyH_ready (rs := [6]) (by kernel_rfl) (by simp) ?_
        refine AllReadyH.cons (o := { dst := some 46, op := Op.call { callee := Callee.value (Operand.func 7), args := #[Operand.tmp 40, Operand.tmp 41, Operand.tmp 45], argTypes := #[23, 27, 36] }, type := 4, pos := "law.go:68", after := #[{ on := 0, ground := Ground.data }, { on := 1, ground := Ground.data }, { on := 5, ground := Ground.data }], guard := none }) rfl (fun K hK => ?_) AllReadyH.nil
        go_simp
        go_at_call 7
        (with_reducible refine hp'.out.mono ?_)
        rintro e w5 ⟨rfl, h5⟩
        obtain ⟨K5, T5, hM5⟩ := h5.out
        obtain ⟨ra, rc, c5, hlen5, hkind5, hall5⟩ := hM5.looks
        have hlen5' := Lib.hid hlen5
        have hkind5' := Lib.hid hkind5
        have hall5' := Lib.hid hall5
        have hM5' := Lib.hid hM5
        clear hM5 h5 hlen5 hkind5 hall5 x0 xn x1 x2 x3 x4 x5 x6 x7
        go_wp2_with fail
        refine hK.out _ _ trivial (fun hHeld => ?_)
        clear hK K
        try simp only [Act.put, List.setIfInBounds_toArray, List.set_cons_zero, List.set_cons_succ]
        refine wpAnyH_mono (S' := fun w' => Looked dp rb K5 ra T5.length rc w') (fun _ _ => trivial) _ _ _ _ ?_
        clear hHeld
        have hHeld : (fun w' => Looked dp rb K5 ra T5.length rc w') _ := c5
        refine wpAnyH_take (i := 7) (oi := { dst := some 47, op := Op.unOp UnOp.not 4 (Operand.tmp 46), type := 4, pos := "law.go:68", after := #[{ on := 6, ground := Ground.data }], guard := none }) (v := ?vv7_6) rfl (by kernel_rfl) (by kernel_rfl) (by kernel_rfl) (fun _ _ _ h => h) (Or.inl ⟨by rfl, ?hy7_6⟩) (by assumption) ?rest7_6
        case hy7_6 =>
          intro w hSw
          try dsimp only at hSw
          obtain ⟨hSa, hSb, hSc⟩ := hSw
          go_simp
          try with_reducible rfl
        try simp only [Act.put, List.setIfInBounds_toArray, List.set_cons_zero, List.set_cons_succ]
        refine wpAnyH_take (i := 8) (oi := { dst := some 48, op := Op.move (Operand.tmp 47), type := 4, pos := "law.go:68", after := #[{ on := 7, ground := Ground.data }, { on := 6, ground := Ground.chain }], guard := none }) (v := ?vv8_7) rfl (by kernel_rfl) (by kernel_rfl) (by kernel_rfl) (fun _ _ _ h => h) (Or.inl ⟨by rfl, ?hy8_7⟩) (by assumption) ?rest8_7
        case hy8_7 =>
          intro w hSw
          try dsimp only at hSw
          obtain ⟨hSa, hSb, hSc⟩ := hSw
          go_simp
          try with_reducible rfl
        try simp only [Act.put, List.setIfInBounds_toArray, List.set_cons_zero, List.set_cons_succ]
        refine wpAnyH_take (i := 9) (oi := { dst := some 49, op := Op.move (Operand.tmp 5), type := 23, pos := "law.go:68", after := #[{ on := 8, ground := Ground.guard }], guard := some (8, false) }) (v := ?vv9_8) rfl (by kernel_rfl) (by kernel_rfl) (by kernel_rfl) (fun _ _ _ h => h) (Or.inl ⟨by rfl, ?hy9_8⟩) (by assumption) ?rest9_8
        case hy9_8 =>
          intro w hSw
          try dsimp only at hSw
          obtain ⟨hSa, hSb, hSc⟩ := hSw
          go_simp
          try with_reducible rfl
        try simp only [Act.put, List.setIfInBounds_toArray, List.set_cons_zero, List.set_cons_succ]
        refine wpAnyH_take (i := 11) (oi := { dst := some 51, op := Op.move (Operand.tmp 7), type := 27, pos := "law.go:68", after := #[{ on := 8, ground := Ground.guard }], guard := some (8, false) }) (v := ?vv11_9) rfl (by kernel_rfl) (by kernel_rfl) (by kernel_rfl) (fun _ _ _ h => h) (Or.inl ⟨by rfl, ?hy11_9⟩) (by assumption) ?rest11_9
        case hy11_9 =>
          intro w hSw
          try dsimp only at hSw
          obtain ⟨hSa, hSb, hSc⟩ := hSw
          go_simp
          try with_reducible rfl
        try simp only [Act.put, List.setIfInBounds_toArray, List.set_cons_zero, List.set_cons_succ]
        refine wpAnyH_take (i := 12) (oi := { dst := some 52, op := Op.nilCheck (Operand.tmp 51), type := 0, pos := "law.go:68", after := #[{ on := 11, ground := Ground.data }, { on := 8, ground := Ground.guard }], guard := some (8, false) }) (v := ?vv12_10) rfl (by kernel_rfl) (by kernel_rfl) (by kernel_rfl) (fun _ _ _ h => h) (Or.inl ⟨by rfl, ?hy12_10⟩) (by assumption) ?rest12_10
        case hy12_10 =>
          intro w hSw
          try dsimp only at hSw
          obtain ⟨hSa, hSb, hSc⟩ := hSw
          go_simp
          try with_reducible rfl
        try simp only [Act.put, List.setIfInBounds_toArray, List.set_cons_zero, List.set_cons_succ]
        refine wpAnyH_take (i := 13) (oi := { dst := some 53, op := Op.fieldAddr 43 (Operand.tmp 52) 0, type := 0, pos := "law.go:68", after := #[{ on := 12, ground := Ground.data }, { on := 8, ground := Ground.guard }], guard := some (8, false) }) (v := ?vv13_11) rfl (by kernel_rfl) (by kernel_rfl) (by kernel_rfl) (fun _ _ _ h => h) (Or.inl ⟨by rfl, ?hy13_11⟩) (by assumption) ?rest13_11
        case hy13_11 =>
          intro w hSw
          try dsimp only at hSw
          obtain ⟨hSa, hSb, hSc⟩ := hSw
          go_simp
          try with_reducible rfl
        try simp only [Act.put, List.setIfInBounds_toArray, List.set_cons_zero, List.set_cons_succ]
        refine wpAnyH_take (i := 14) (oi := { dst := some 54, op := Op.load 41 (Operand.tmp 53), type := 41, pos := "law.go:68", after := #[{ on := 13, ground := Ground.data }, { on := 8, ground := Ground.guard }], guard := some (8, false) }) (v := ?vv14_12) rfl (by kernel_rfl) (by kernel_rfl) (by kernel_rfl) (fun _ _ _ h => h) (Or.inl ⟨by rfl, ?hy14_12⟩) (by assumption) ?rest14_12
        case hy14_12 =>
          intro w hSw
          try dsimp only at hSw
          obtain ⟨hSa, hSb, hSc⟩ := hSw
          go_simp
          try with_reducible rfl
        try simp only [Act.put, List.setIfInBounds_toArray, List.set_cons_zero, List.set_cons_succ]
        refine wpAnyH_take (i := 15) (oi := { dst := some 55, op := Op.nilCheck (Operand.tmp 54), type := 0, pos := "law.go:68", after := #[{ on := 14, ground := Ground.data }, { on := 8, ground := Ground.guard }], guard := some (8, false) }) (v := ?vv15_13) rfl (by kernel_rfl) (by kernel_rfl) (by kernel_rfl) (fun _ _ _ h => h) (Or.inl ⟨by rfl, ?hy15_13⟩) (by assumption) ?rest15_13
        case hy15_13 =>
          intro w hSw
          try dsimp only at hSw
          obtain ⟨hSa, hSb, hSc⟩ := hSw
          go_simp
          try with_reducible rfl
        try simp only [Act.put, List.setIfInBounds_toArray, List.set_cons_zero, List.set_cons_succ]
        refine wpAnyH_take (i := 16) (oi := { dst := some 56, op := Op.fieldAddr 40 (Operand.tmp 55) 0, type := 0, pos := "law.go:68", after := #[{ on := 15, ground := Ground.data }, { on := 8, ground := Ground.guard }], guard := some (8, false) }) (v := ?vv16_14) rfl (by kernel_rfl) (by kernel_rfl) (by kernel_rfl) (fun _ _ _ h => h) (Or.inl ⟨by rfl, ?hy16_14⟩) (by assumption) ?rest16_14
        case hy16_14 =>
          intro w hSw
          try dsimp only at hSw
          obtain ⟨hSa, hSb, hSc⟩ := hSw
          go_simp
          try with_reducible rfl
        try simp only [Act.put, List.setIfInBounds_toArray, List.set_cons_zero, List.set_cons_succ]
        refine wpAnyH_take (i := 17) (oi := { dst := some 57, op := Op.load 38 (Operand.tmp 56), type := 38, pos := "law.go:68", after := #[{ on := 16, ground := Ground.data }, { on := 8, ground := Ground.guard }], guard := some (8, false) }) (v := ?vv17_15) rfl (by kernel_rfl) (by kernel_rfl) (by kernel_rfl) (fun _ _ _ h => h) (Or.inl ⟨by rfl, ?hy17_15⟩) (by assumption) ?rest17_15
        case hy17_15 =>
          intro w hSw
          try dsimp only at hSw
          obtain ⟨hSa, hSb, hSc⟩ := hSw
          go_simp
          try with_reducible rfl
        try simp only [Act.put, List.setIfInBounds_toArray, List.set_cons_zero, List.set_cons_succ]
        refine wpAnyH_take (i := 18) (oi := { dst := some 58, op := Op.call { callee := Callee.builtin Builtin.len, args := #[Operand.tmp 57], argTypes := #[38] }, type := 3, pos := "law.go:68", after := #[{ on := 17, ground := Ground.data }, { on := 8, ground := Ground.guard }], guard := some (8, false) }) (v := ?vv18_16) rfl (by kernel_rfl) (by kernel_rfl) (by kernel_rfl) (fun _ _ _ h => h) (Or.inl ⟨by rfl, ?hy18_16⟩) (by assumption) ?rest18_16
        case hy18_16 =>
          intro w hSw
          try dsimp only at hSw
          obtain ⟨hSa, hSb, hSc⟩ := hSw
          go_simp
          try with_reducible rfl
        try simp only [Act.put, List.setIfInBounds_toArray, List.set_cons_zero, List.set_cons_succ]
        refine wpAnyH_ready (rs := [10]) (by kernel_rfl) (by simp) ?_
        refine AllReadyH.cons (o := { dst := some 50, op := Op.call { callee := Callee.value (Operand.func 8), args := #[Operand.tmp 49], argTypes := #[23] }, type := 3, pos := "law.go:68", after := #[{ on := 9, ground := Ground.data }, { on := 8, ground := Ground.chain }, { on := 8, ground := Ground.guard }], guard := some (8, false) }) rfl (fun K hK => ?_) AllReadyH.nil
        go_simp
        go_at_call 8
        (with_reducible refine hlen5'.out.mono ?_)
        rintro e w6 ⟨rfl, rfl⟩
        go_wp2_with fail
        refine hK.out _ _ c5 (fun hHeld => ?_)
        clear hK K
        try simp only [Act.put, List.setIfInBounds_toArray, List.set_cons_zero, List.set_cons_succ]
        refine wpAnyH_take (i := 19) (oi := { dst := some 59, op := Op.binOp BinOp.neq 3 (Operand.tmp 50) (Operand.tmp 58) 3, type := 4, pos := "law.go:68", after := #[{ on := 10, ground := Ground.data }, { on := 18, ground := Ground.data }, { on := 8, ground := Ground.guard }], guard := some (8, false) }) (v := ?vv19_17) rfl (by kernel_rfl) (by kernel_rfl) (by kernel_rfl) (fun _ _ _ h => h) (Or.inl ⟨by rfl, ?hy19_17⟩) (by assumption) ?rest19_17
        case hy19_17 =>
          intro w hSw
          try dsimp only at hSw
          obtain ⟨hSa, hSb, hSc⟩ := hSw
          go_simp
          try with_reducible rfl
        try simp only [Act.put, List.setIfInBounds_toArray, List.set_cons_zero, List.set_cons_succ]
        refine wpAnyH_take (i := 20) (oi := { dst := some 60, op := Op.pick (Operand.tmp 48) (Operand.const (Value.bool true)) (Operand.tmp 59), type := 4, pos := "law.go:68", after := #[{ on := 8, ground := Ground.data }, { on := 19, ground := Ground.data }], guard := none }) (v := ?vv20_18) rfl (by kernel_rfl) (by kernel_rfl) (by kernel_rfl) (fun _ _ _ h => h) (Or.inl ⟨by rfl, ?hy20_18⟩) (by assumption) ?rest20_18
        case hy20_18 =>
          intro w hSw
          try dsimp only at hSw
          obtain ⟨hSa, hSb, hSc⟩ := hSw
          go_simp
          try with_reducible rfl
        try simp only [Act.put, List.setIfInBounds_toArray, List.set_cons_zero, List.set_cons_succ]
        refine wpAnyH_take (i := 21) (oi := { dst := some 61, op := Op.move (Operand.tmp 60), type := 4, pos := "law.go:68", after := #[{ on := 20, ground := Ground.data }, { on := 10, ground := Ground.chain }], guard := none }) (v := ?vv21_19) rfl (by kernel_rfl) (by kernel_rfl) (by kernel_rfl) (fun _ _ _ h => h) (Or.inl ⟨by rfl, ?hy21_19⟩) (by assumption) ?rest21_19
        case hy21_19 =>
          intro w hSw
          try dsimp only at hSw
          obtain ⟨hSa, hSb, hSc⟩ := hSw
          go_simp
          try with_reducible rfl
        try simp only [Act.put, List.setIfInBounds_toArray, List.set_cons_zero, List.set_cons_succ]
        refine wpAnyH_take (i := 22) (oi := { dst := some 62, op := Op.move (Operand.tmp 5), type := 23, pos := "law.go:68", after := #[{ on := 21, ground := Ground.guard }], guard := some (21, false) }) (v := ?vv22_20) rfl (by kernel_rfl) (by kernel_rfl) (by kernel_rfl) (fun _ _ _ h => h) (Or.inl ⟨by rfl, ?hy22_20⟩) (by assumption) ?rest22_20
        case hy22_20 =>
          intro w hSw
          try dsimp only at hSw
          obtain ⟨hSa, hSb, hSc⟩ := hSw
          go_simp
          try with_reducible rfl
        try simp only [Act.put, List.setIfInBounds_toArray, List.set_cons_zero, List.set_cons_succ]
        refine wpAnyH_take (i := 24) (oi := { dst := some 64, op := Op.move (Operand.tmp 7), type := 27, pos := "law.go:68", after := #[{ on := 21, ground := Ground.guard }], guard := some (21, false) }) (v := ?vv24_21) rfl (by kernel_rfl) (by kernel_rfl) (by kernel_rfl) (fun _ _ _ h => h) (Or.inl ⟨by rfl, ?hy24_21⟩) (by assumption) ?rest24_21
        case hy24_21 =>
          intro w hSw
          try dsimp only at hSw
          obtain ⟨hSa, hSb, hSc⟩ := hSw
          go_simp
          try with_reducible rfl
        try simp only [Act.put, List.setIfInBounds_toArray, List.set_cons_zero, List.set_cons_succ]
        refine wpAnyH_take (i := 25) (oi := { dst := some 65, op := Op.nilCheck (Operand.tmp 64), type := 0, pos := "law.go:68", after := #[{ on := 24, ground := Ground.data }, { on := 21, ground := Ground.guard }], guard := some (21, false) }) (v := ?vv25_22) rfl (by kernel_rfl) (by kernel_rfl) (by kernel_rfl) (fun _ _ _ h => h) (Or.inl ⟨by rfl, ?hy25_22⟩) (by assumption) ?rest25_22
        case hy25_22 =>
          intro w hSw
          try dsimp only at hSw
          obtain ⟨hSa, hSb, hSc⟩ := hSw
          go_simp
          try with_reducible rfl
        try simp only [Act.put, List.setIfInBounds_toArray, List.set_cons_zero, List.set_cons_succ]
        refine wpAnyH_take (i := 26) (oi := { dst := some 66, op := Op.fieldAddr 43 (Operand.tmp 65) 1, type := 0, pos := "law.go:68", after := #[{ on := 25, ground := Ground.data }, { on := 21, ground := Ground.guard }], guard := some (21, false) }) (v := ?vv26_23) rfl (by kernel_rfl) (by kernel_rfl) (by kernel_rfl) (fun _ _ _ h => h) (Or.inl ⟨by rfl, ?hy26_23⟩) (by assumption) ?rest26_23
        case hy26_23 =>
          intro w hSw
          try dsimp only at hSw
          obtain ⟨hSa, hSb, hSc⟩ := hSw
          go_simp
          try with_reducible rfl
        try simp only [Act.put, List.setIfInBounds_toArray, List.set_cons_zero, List.set_cons_succ]
        refine wpAnyH_take (i := 27) (oi := { dst := some 67, op := Op.load 3 (Operand.tmp 66), type := 3, pos := "law.go:68", after := #[{ on := 26, ground := Ground.data }, { on := 21, ground := Ground.guard }], guard := some (21, false) }) (v := ?vv27_24) rfl (by kernel_rfl) (by kernel_rfl) (by kernel_rfl) (fun _ _ _ h => h) (Or.inl ⟨by rfl, ?hy27_24⟩) (by assumption) ?rest27_24
        case hy27_24 =>
          intro w hSw
          try dsimp only at hSw
          obtain ⟨hSa, hSb, hSc⟩ := hSw
          go_simp
          try with_reducible rfl
        try simp only [Act.put, List.setIfInBounds_toArray, List.set_cons_zero, List.set_cons_succ]
        refine wpAnyH_ready (rs := [23]) (by kernel_rfl) (by simp) ?_
        refine AllReadyH.cons (o := { dst := some 63, op := Op.call { callee := Callee.value (Operand.func 9), args := #[Operand.tmp 62], argTypes := #[23] }, type := 3, pos := "law.go:68", after := #[{ on := 22, ground := Ground.data }, { on := 21, ground := Ground.chain }, { on := 21, ground := Ground.guard }], guard := some (21, false) }) rfl (fun K hK => ?_) AllReadyH.nil
        go_simp
        go_at_call 9
        (with_reducible refine hkind5'.out.mono ?_)
        rintro e w6 ⟨rfl, rfl⟩
        go_wp2_with fail
        refine hK.out _ _ c5 (fun hHeld => ?_)
        clear hK K
        try simp only [Act.put, List.setIfInBounds_toArray, List.set_cons_zero, List.set_cons_succ]
        refine wpAnyH_take (i := 28) (oi := { dst := some 68, op := Op.binOp BinOp.neq 3 (Operand.tmp 63) (Operand.tmp 67) 3, type := 4, pos := "law.go:68", after := #[{ on := 23, ground := Ground.data }, { on := 27, ground := Ground.data }, { on := 21, ground := Ground.guard }], guard := some (21, false) }) (v := ?vv28_25) rfl (by kernel_rfl) (by kernel_rfl) (by kernel_rfl) (fun _ _ _ h => h) (Or.inl ⟨by rfl, ?hy28_25⟩) (by assumption) ?rest28_25
        case hy28_25 =>
          intro w hSw
          try dsimp only at hSw
          obtain ⟨hSa, hSb, hSc⟩ := hSw
          go_simp
          try with_reducible rfl
        try simp only [Act.put, List.setIfInBounds_toArray, List.set_cons_zero, List.set_cons_succ]
        refine wpAnyH_take (i := 29) (oi := { dst := some 69, op := Op.pick (Operand.tmp 61) (Operand.const (Value.bool true)) (Operand.tmp 68), type := 4, pos := "law.go:68", after := #[{ on := 21, ground := Ground.data }, { on := 28, ground := Ground.data }], guard := none }) (v := ?vv29_26) rfl (by kernel_rfl) (by kernel_rfl) (by kernel_rfl) (fun _ _ _ h => h) (Or.inl ⟨by rfl, ?hy29_26⟩) (by assumption) ?rest29_26
        case hy29_26 =>
          intro w hSw
          try dsimp only at hSw
          obtain ⟨hSa, hSb, hSc⟩ := hSw
          go_simp
          try with_reducible rfl
        try simp only [Act.put, List.setIfInBounds_toArray, List.set_cons_zero, List.set_cons_succ]
        refine wpAnyH_take (i := 30) (oi := { dst := some 70, op := Op.move (Operand.tmp 69), type := 4, pos := "law.go:68", after := #[{ on := 29, ground := Ground.data }, { on := 23, ground := Ground.chain }], guard := none }) (v := ?vv30_27) rfl (by kernel_rfl) (by kernel_rfl) (by kernel_rfl) (fun _ _ _ h => h) (Or.inl ⟨by rfl, ?hy30_27⟩) (by assumption) ?rest30_27
        case hy30_27 =>
          intro w hSw
          try dsimp only at hSw
          obtain ⟨hSa, hSb, hSc⟩ := hSw
          go_simp
          try with_reducible rfl
        try simp only [Act.put, List.setIfInBounds_toArray, List.set_cons_zero, List.set_cons_succ]
        refine wpAnyH_take (i := 31) (oi := { dst := some 71, op := Op.move (Operand.tmp 9), type := 3, pos := "law.go:68", after := #[{ on := 30, ground := Ground.guard }], guard := some (30, false) }) (v := ?vv31_28) rfl (by kernel_rfl) (by kernel_rfl) (by kernel_rfl) (fun _ _ _ h => h) (Or.inl ⟨by rfl, ?hy31_28⟩) (by assumption) ?rest31_28
        case hy31_28 =>
          intro w hSw
          try dsimp only at hSw
          obtain ⟨hSa, hSb, hSc⟩ := hSw
          go_simp
          try with_reducible rfl
        try simp only [Act.put, List.setIfInBounds_toArray, List.set_cons_zero, List.set_cons_succ]
        refine wpAnyH_take (i := 32) (oi := { dst := some 72, op := Op.binOp BinOp.lss 3 (Operand.tmp 71) (Operand.const (Value.int IntKind.i64 100)) 3, type := 4, pos := "law.go:68", after := #[{ on := 31, ground := Ground.data }, { on := 30, ground := Ground.guard }], guard := some (30, false) }) (v := ?vv32_29) rfl (by kernel_rfl) (by kernel_rfl) (by kernel_rfl) (fun _ _ _ h => h) (Or.inl ⟨by rfl, ?hy32_29⟩) (by assumption) ?rest32_29
        case hy32_29 =>
          intro w hSw
          try dsimp only at hSw
          obtain ⟨hSa, hSb, hSc⟩ := hSw
          go_simp
          try with_reducible rfl
        try simp only [Act.put, List.setIfInBounds_toArray, List.set_cons_zero, List.set_cons_succ]
        refine wpAnyH_take (i := 33) (oi := { dst := some 73, op := Op.move (Operand.tmp 72), type := 4, pos := "law.go:68", after := #[{ on := 32, ground := Ground.data }, { on := 30, ground := Ground.chain }, { on := 30, ground := Ground.guard }], guard := some (30, false) }) (v := ?vv33_30) rfl (by kernel_rfl) (by kernel_rfl) (by kernel_rfl) (fun _ _ _ h => h) (Or.inl ⟨by rfl, ?hy33_30⟩) (by assumption) ?rest33_30
        case hy33_30 =>
          intro w hSw
          try dsimp only at hSw
          obtain ⟨hSa, hSb, hSc⟩ := hSw
          go_simp
          try with_reducible rfl
        try simp only [Act.put, List.setIfInBounds_toArray, List.set_cons_zero, List.set_cons_succ]
        refine wpAnyH_take (i := 34) (oi := { dst := some 74, op := Op.move (Operand.tmp 5), type := 23, pos := "law.go:68", after := #[{ on := 33, ground := Ground.guard }], guard := some (33, true) }) (v := ?vv34_31) rfl (by kernel_rfl) (by kernel_rfl) (by kernel_rfl) (fun _ _ _ h => h) (Or.inl ⟨by rfl, ?hy34_31⟩) (by assumption) ?rest34_31
        case hy34_31 =>
          intro w hSw
          try dsimp only at hSw
          obtain ⟨hSa, hSb, hSc⟩ := hSw
          go_simp
          try with_reducible rfl
        try simp only [Act.put, List.setIfInBounds_toArray, List.set_cons_zero, List.set_cons_succ]
        refine wpAnyH_take (i := 36) (oi := { dst := some 76, op := Op.move (Operand.tmp 7), type := 27, pos := "law.go:68", after := #[{ on := 33, ground := Ground.guard }], guard := some (33, true) }) (v := ?vv36_32) rfl (by kernel_rfl) (by kernel_rfl) (by kernel_rfl) (fun _ _ _ h => h) (Or.inl ⟨by rfl, ?hy36_32⟩) (by assumption) ?rest36_32
        case hy36_32 =>
          intro w hSw
          try dsimp only at hSw
          obtain ⟨hSa, hSb, hSc⟩ := hSw
          go_simp
          try with_reducible rfl
        try simp only [Act.put, List.setIfInBounds_toArray, List.set_cons_zero, List.set_cons_succ]
        refine wpAnyH_take (i := 37) (oi := { dst := some 77, op := Op.nilCheck (Operand.tmp 76), type := 0, pos := "law.go:68", after := #[{ on := 36, ground := Ground.data }, { on := 33, ground := Ground.guard }], guard := some (33, true) }) (v := ?vv37_33) rfl (by kernel_rfl) (by kernel_rfl) (by kernel_rfl) (fun _ _ _ h => h) (Or.inl ⟨by rfl, ?hy37_33⟩) (by assumption) ?rest37_33
        case hy37_33 =>
          intro w hSw
          try dsimp only at hSw
          obtain ⟨hSa, hSb, hSc⟩ := hSw
          go_simp
          try with_reducible rfl
        try simp only [Act.put, List.setIfInBounds_toArray, List.set_cons_zero, List.set_cons_succ]
        refine wpAnyH_take (i := 38) (oi := { dst := some 78, op := Op.fieldAddr 43 (Operand.tmp 77) 0, type := 0, pos := "law.go:68", after := #[{ on := 37, ground := Ground.data }, { on := 33, ground := Ground.guard }], guard := some (33, true) }) (v := ?vv38_34) rfl (by kernel_rfl) (by kernel_rfl) (by kernel_rfl) (fun _ _ _ h => h) (Or.inl ⟨by rfl, ?hy38_34⟩) (by assumption) ?rest38_34
        case hy38_34 =>
          intro w hSw
          try dsimp only at hSw
          obtain ⟨hSa, hSb, hSc⟩ := hSw
          go_simp
          try with_reducible rfl
        try simp only [Act.put, List.setIfInBounds_toArray, List.set_cons_zero, List.set_cons_succ]
        refine wpAnyH_take (i := 39) (oi := { dst := some 79, op := Op.load 41 (Operand.tmp 78), type := 41, pos := "law.go:68", after := #[{ on := 38, ground := Ground.data }, { on := 33, ground := Ground.guard }], guard := some (33, true) }) (v := ?vv39_35) rfl (by kernel_rfl) (by kernel_rfl) (by kernel_rfl) (fun _ _ _ h => h) (Or.inl ⟨by rfl, ?hy39_35⟩) (by assumption) ?rest39_35
        case hy39_35 =>
          intro w hSw
          try dsimp only at hSw
          obtain ⟨hSa, hSb, hSc⟩ := hSw
          go_simp
          try with_reducible rfl
        try simp only [Act.put, List.setIfInBounds_toArray, List.set_cons_zero, List.set_cons_succ]
        refine wpAnyH_take (i := 40) (oi := { dst := some 80, op := Op.nilCheck (Operand.tmp 79), type := 0, pos := "law.go:68", after := #[{ on := 39, ground := Ground.data }, { on := 33, ground := Ground.guard }], guard := some (33, true) }) (v := ?vv40_36) rfl (by kernel_rfl) (by kernel_rfl) (by kernel_rfl) (fun _ _ _ h => h) (Or.inl ⟨by rfl, ?hy40_36⟩) (by assumption) ?rest40_36
        case hy40_36 =>
          intro w hSw
          try dsimp only at hSw
          obtain ⟨hSa, hSb, hSc⟩ := hSw
          go_simp
          try with_reducible rfl
        try simp only [Act.put, List.setIfInBounds_toArray, List.set_cons_zero, List.set_cons_succ]
        refine wpAnyH_take (i := 41) (oi := { dst := some 81, op := Op.fieldAddr 40 (Operand.tmp 80) 0, type := 0, pos := "law.go:68", after := #[{ on := 40, ground := Ground.data }, { on := 33, ground := Ground.guard }], guard := some (33, true) }) (v := ?vv41_37) rfl (by kernel_rfl) (by kernel_rfl) (by kernel_rfl) (fun _ _ _ h => h) (Or.inl ⟨by rfl, ?hy41_37⟩) (by assumption) ?rest41_37
        case hy41_37 =>
          intro w hSw
          try dsimp only at hSw
          obtain ⟨hSa, hSb, hSc⟩ := hSw
          go_simp
          try with_reducible rfl
        try simp only [Act.put, List.setIfInBounds_toArray, List.set_cons_zero, List.set_cons_succ]
        refine wpAnyH_take (i := 42) (oi := { dst := some 82, op := Op.load 38 (Operand.tmp 81), type := 38, pos := "law.go:68", after := #[{ on := 41, ground := Ground.data }, { on := 33, ground := Ground.guard }], guard := some (33, true) }) (v := ?vv42_38) rfl (by kernel_rfl) (by kernel_rfl) (by kernel_rfl) (fun _ _ _ h => h) (Or.inl ⟨by rfl, ?hy42_38⟩) (by assumption) ?rest42_38
        case hy42_38 =>
          intro w hSw
          try dsimp only at hSw
          obtain ⟨hSa, hSb, hSc⟩ := hSw
          go_simp
          try with_reducible rfl
        try simp only [Act.put, List.setIfInBounds_toArray, List.set_cons_zero, List.set_cons_succ]
        refine wpAnyH_ready (rs := [35]) (by kernel_rfl) (by simp) ?_
        refine AllReadyH.cons (o := { dst := some 75, op := Op.call { callee := Callee.value (Operand.func 11), args := #[Operand.tmp 74], argTypes := #[23] }, type := 38, pos := "law.go:68", after := #[{ on := 34, ground := Ground.data }, { on := 33, ground := Ground.chain }, { on := 33, ground := Ground.guard }], guard := some (33, true) }) rfl (fun K hK => ?_) AllReadyH.nil
        go_simp
        go_at_call 11
        (with_reducible refine hall5'.out.mono ?_)
        rintro e w7 ⟨a1, c1, rfl, c7, h7⟩
        go_wp2_with fail
        refine hK.out _ _ c7 (fun hHeld => ?_)
        clear hK K
        try simp only [Act.put, List.setIfInBounds_toArray, List.set_cons_zero, List.set_cons_succ]
        refine wpAnyH_ready (rs := [43]) (by kernel_rfl) (by simp) ?_
        refine AllReadyH.cons (o := { dst := some 83, op := Op.call { callee := Callee.value (Operand.func 10), args := #[Operand.tmp 75, Operand.tmp 82], argTypes := #[38, 38] }, type := 4, pos := "law.go:68", after := #[{ on := 35, ground := Ground.data }, { on := 42, ground := Ground.data }, { on := 35, ground := Ground.chain }, { on := 33, ground := Ground.guard }], guard := some (33, true) }) rfl (fun K hK => ?_) AllReadyH.nil
        go_simp
        go_at_call 10
        (with_reducible refine h7.out.2.mono ?_)
        rintro e w8 ⟨rfl, h8⟩
        go_wp2_with fail
        refine hK.out _ _ h8.out.2 (fun hHeld => ?_)
        clear hK K
        try simp only [Act.put, List.setIfInBounds_toArray, List.set_cons_zero, List.set_cons_succ]
        refine wpAnyH_take (i := 44) (oi := { dst := some 84, op := Op.unOp UnOp.not 4 (Operand.tmp 83), type := 4, pos := "law.go:68", after := #[{ on := 43, ground := Ground.data }, { on := 33, ground := Ground.guard }], guard := some (33, true) }) (v := ?vv44_39) rfl (by kernel_rfl) (by kernel_rfl) (by kernel_rfl) (fun _ _ _ h => h) (Or.inl ⟨by rfl, ?hy44_39⟩) (by assumption) ?rest44_39
        case hy44_39 =>
          intro w hSw
          try dsimp only at hSw
          obtain ⟨hSa, hSb, hSc⟩ := hSw
          go_simp
          try with_reducible rfl
        try simp only [Act.put, List.setIfInBounds_toArray, List.set_cons_zero, List.set_cons_succ]
        refine wpAnyH_take (i := 45) (oi := { dst := some 85, op := Op.pick (Operand.tmp 73) (Operand.tmp 84) (Operand.const (Value.bool false)), type := 4, pos := "law.go:68", after := #[{ on := 33, ground := Ground.data }, { on := 44, ground := Ground.data }, { on := 30, ground := Ground.guard }], guard := some (30, false) }) (v := ?vv45_40) rfl (by kernel_rfl) (by kernel_rfl) (by kernel_rfl) (fun _ _ _ h => h) (Or.inl ⟨by rfl, ?hy45_40⟩) (by assumption) ?rest45_40
        case hy45_40 =>
          intro w hSw
          try dsimp only at hSw
          obtain ⟨hSa, hSb, hSc⟩ := hSw
          go_simp
          try with_reducible rfl
        try simp only [Act.put, List.setIfInBounds_toArray, List.set_cons_zero, List.set_cons_succ]
        refine wpAnyH_take (i := 46) (oi := { dst := some 86, op := Op.pick (Operand.tmp 70) (Operand.const (Value.bool true)) (Operand.tmp 85), type := 4, pos := "law.go:68", after := #[{ on := 30, ground := Ground.data }, { on := 45, ground := Ground.data }], guard := none }) (v := ?vv46_41) rfl (by kernel_rfl) (by kernel_rfl) (by kernel_rfl) (fun _ _ _ h => h) (Or.inl ⟨by rfl, ?hy46_41⟩) (by assumption) ?rest46_41
        case hy46_41 =>
          intro w hSw
          try dsimp only at hSw
          obtain ⟨hSa, hSb, hSc⟩ := hSw
          go_simp
          try with_reducible rfl
        try simp only [Act.put, List.setIfInBounds_toArray, List.set_cons_zero, List.set_cons_succ]
        refine wpAnyH_done (by kernel_rfl) ?_ _
        go_wp2
        refine ⟨⟨i + 1, hi'.out, by go_num, ⟨K5, T5, (hM5'.out.below h7.out.1).below h8.out.1⟩⟩, ?_⟩
        have := hi'.out
        simp [intOf]
        omega
      · have hz1 : ¬ (i : Int) < 100 := by omega
        have hzd : decide ((i : Int) < 100) = false := decide_eq_false hz1
        go_upto_region 8 with (fail)
        refine wp_region_held_drew (S := fun _ => True) (by kernel_rfl) trivial (fun hHeld => ?_)
        refine wpAnyH_take (i := 0) (oi := { dst := some 40, op := Op.move (Operand.tmp 5), type := 23, pos := "law.go:68", after := #[], guard := none }) (v := ?vv0_101) rfl (by kernel_rfl) (by kernel_rfl) (by kernel_rfl) (fun _ _ _ h => h) (Or.inl ⟨by rfl, ?hy0_101⟩) (by assumption) ?rest0_101
        case hy0_101 =>
          intro w hSw
          try dsimp only at hSw
          go_simp
          try with_reducible rfl
        try simp only [Act.put, List.setIfInBounds_toArray, List.set_cons_zero, List.set_cons_succ]
        refine wpAnyH_take (i := 1) (oi := { dst := some 41, op := Op.move (Operand.tmp 7), type := 27, pos := "law.go:68", after := #[], guard := none }) (v := ?vv1_102) rfl (by kernel_rfl) (by kernel_rfl) (by kernel_rfl) (fun _ _ _ h => h) (Or.inl ⟨by rfl, ?hy1_102⟩) (by assumption) ?rest1_102
        case hy1_102 =>
          intro w hSw
          try dsimp only at hSw
          go_simp
          try with_reducible rfl
        try simp only [Act.put, List.setIfInBounds_toArray, List.set_cons_zero, List.set_cons_succ]
        refine wpAnyH_take (i := 2) (oi := { dst := some 42, op := Op.move (Operand.tmp 1), type := 22, pos := "law.go:68", after := #[], guard := none }) (v := ?vv2_103) rfl (by kernel_rfl) (by kernel_rfl) (by kernel_rfl) (fun _ _ _ h => h) (Or.inl ⟨by rfl, ?hy2_103⟩) (by assumption) ?rest2_103
        case hy2_103 =>
          intro w hSw
          try dsimp only at hSw
          go_simp
          try with_reducible rfl
        try simp only [Act.put, List.setIfInBounds_toArray, List.set_cons_zero, List.set_cons_succ]
        refine wpAnyH_take (i := 3) (oi := { dst := some 43, op := Op.move (Operand.tmp 9), type := 3, pos := "law.go:68", after := #[], guard := none }) (v := ?vv3_104) rfl (by kernel_rfl) (by kernel_rfl) (by kernel_rfl) (fun _ _ _ h => h) (Or.inl ⟨by rfl, ?hy3_104⟩) (by assumption) ?rest3_104
        case hy3_104 =>
          intro w hSw
          try dsimp only at hSw
          go_simp
          try with_reducible rfl
        try simp only [Act.put, List.setIfInBounds_toArray, List.set_cons_zero, List.set_cons_succ]
        refine wpAnyH_take (i := 4) (oi := { dst := some 44, op := Op.indexAddr 22 (Operand.tmp 42) (Operand.tmp 43), type := 0, pos := "law.go:68", after := #[{ on := 2, ground := Ground.data }, { on := 3, ground := Ground.data }], guard := none }) (v := ?vv4_105) rfl (by kernel_rfl) (by kernel_rfl) (by kernel_rfl) (fun _ _ _ h => h) (Or.inl ⟨by rfl, ?hy4_105⟩) (by assumption) ?rest4_105
        case hy4_105 =>
          intro w hSw
          try dsimp only at hSw
          go_simp
          try with_reducible rfl
        try simp only [Act.put, List.setIfInBounds_toArray, List.set_cons_zero, List.set_cons_succ]
        refine wpAnyH_ready (rs := [5]) (by kernel_rfl) (by simp) ?_
        refine AllReadyH.cons (o := { dst := some 45, op := Op.load 36 (Operand.tmp 44), type := 36, pos := "law.go:68", after := #[{ on := 4, ground := Ground.data }], guard := none }) rfl (fun K hK => ?_) AllReadyH.nil
        go_simp
        refine hK.out _ _ trivial (fun hHeld => ?_)
        clear hK K
        try simp only [Act.put, List.setIfInBounds_toArray, List.set_cons_zero, List.set_cons_succ]
        refine wpAnyH_ready (rs := [6]) (by kernel_rfl) (by simp) ?_
        refine AllReadyH.cons (o := { dst := some 46, op := Op.call { callee := Callee.value (Operand.func 7), args := #[Operand.tmp 40, Operand.tmp 41, Operand.tmp 45], argTypes := #[23, 27, 36] }, type := 4, pos := "law.go:68", after := #[{ on := 0, ground := Ground.data }, { on := 1, ground := Ground.data }, { on := 5, ground := Ground.data }], guard := none }) rfl (fun K hK => ?_) AllReadyH.nil
        go_simp
        go_at_call 7
        (with_reducible refine hp'.out.mono ?_)
        rintro e w5 ⟨rfl, h5⟩
        obtain ⟨K5, T5, hM5⟩ := h5.out
        obtain ⟨ra, rc, c5, hlen5, hkind5, hall5⟩ := hM5.looks
        have hlen5' := Lib.hid hlen5
        have hkind5' := Lib.hid hkind5
        have hall5' := Lib.hid hall5
        have hM5' := Lib.hid hM5
        clear hM5 h5 hlen5 hkind5 hall5 x0 xn x1 x2 x3 x4 x5 x6 x7
        go_wp2_with fail
        refine hK.out _ _ trivial (fun hHeld => ?_)
        clear hK K
        try simp only [Act.put, List.setIfInBounds_toArray, List.set_cons_zero, List.set_cons_succ]
        refine wpAnyH_mono (S' := fun w' => Looked dp rb K5 ra T5.length rc w') (fun _ _ => trivial) _ _ _ _ ?_
        clear hHeld
        have hHeld : (fun w' => Looked dp rb K5 ra T5.length rc w') _ := c5
        refine wpAnyH_take (i := 7) (oi := { dst := some 47, op := Op.unOp UnOp.not 4 (Operand.tmp 46), type := 4, pos := "law.go:68", after := #[{ on := 6, ground := Ground.data }], guard := none }) (v := ?vv7_106) rfl (by kernel_rfl) (by kernel_rfl) (by kernel_rfl) (fun _ _ _ h => h) (Or.inl ⟨by rfl, ?hy7_106⟩) (by assumption) ?rest7_106
        case hy7_106 =>
          intro w hSw
          try dsimp only at hSw
          obtain ⟨hSa, hSb, hSc⟩ := hSw
          go_simp
          try with_reducible rfl
        try simp only [Act.put, List.setIfInBounds_toArray, List.set_cons_zero, List.set_cons_succ]
        refine wpAnyH_take (i := 8) (oi := { dst := some 48, op := Op.move (Operand.tmp 47), type := 4, pos := "law.go:68", after := #[{ on := 7, ground := Ground.data }, { on := 6, ground := Ground.chain }], guard := none }) (v := ?vv8_107) rfl (by kernel_rfl) (by kernel_rfl) (by kernel_rfl) (fun _ _ _ h => h) (Or.inl ⟨by rfl, ?hy8_107⟩) (by assumption) ?rest8_107
        case hy8_107 =>
          intro w hSw
          try dsimp only at hSw
          obtain ⟨hSa, hSb, hSc⟩ := hSw
          go_simp
          try with_reducible rfl
        try simp only [Act.put, List.setIfInBounds_toArray, List.set_cons_zero, List.set_cons_succ]
        refine wpAnyH_take (i := 9) (oi := { dst := some 49, op := Op.move (Operand.tmp 5), type := 23, pos := "law.go:68", after := #[{ on := 8, ground := Ground.guard }], guard := some (8, false) }) (v := ?vv9_108) rfl (by kernel_rfl) (by kernel_rfl) (by kernel_rfl) (fun _ _ _ h => h) (Or.inl ⟨by rfl, ?hy9_108⟩) (by assumption) ?rest9_108
        case hy9_108 =>
          intro w hSw
          try dsimp only at hSw
          obtain ⟨hSa, hSb, hSc⟩ := hSw
          go_simp
          try with_reducible rfl
        try simp only [Act.put, List.setIfInBounds_toArray, List.set_cons_zero, List.set_cons_succ]
        refine wpAnyH_take (i := 11) (oi := { dst := some 51, op := Op.move (Operand.tmp 7), type := 27, pos := "law.go:68", after := #[{ on := 8, ground := Ground.guard }], guard := some (8, false) }) (v := ?vv11_109) rfl (by kernel_rfl) (by kernel_rfl) (by kernel_rfl) (fun _ _ _ h => h) (Or.inl ⟨by rfl, ?hy11_109⟩) (by assumption) ?rest11_109
        case hy11_109 =>
          intro w hSw
          try dsimp only at hSw
          obtain ⟨hSa, hSb, hSc⟩ := hSw
          go_simp
          try with_reducible rfl
        try simp only [Act.put, List.setIfInBounds_toArray, List.set_cons_zero, List.set_cons_succ]
        refine wpAnyH_take (i := 12) (oi := { dst := some 52, op := Op.nilCheck (Operand.tmp 51), type := 0, pos := "law.go:68", after := #[{ on := 11, ground := Ground.data }, { on := 8, ground := Ground.guard }], guard := some (8, false) }) (v := ?vv12_110) rfl (by kernel_rfl) (by kernel_rfl) (by kernel_rfl) (fun _ _ _ h => h) (Or.inl ⟨by rfl, ?hy12_110⟩) (by assumption) ?rest12_110
        case hy12_110 =>
          intro w hSw
          try dsimp only at hSw
          obtain ⟨hSa, hSb, hSc⟩ := hSw
          go_simp
          try with_reducible rfl
        try simp only [Act.put, List.setIfInBounds_toArray, List.set_cons_zero, List.set_cons_succ]
        refine wpAnyH_take (i := 13) (oi := { dst := some 53, op := Op.fieldAddr 43 (Operand.tmp 52) 0, type := 0, pos := "law.go:68", after := #[{ on := 12, ground := Ground.data }, { on := 8, ground := Ground.guard }], guard := some (8, false) }) (v := ?vv13_111) rfl (by kernel_rfl) (by kernel_rfl) (by kernel_rfl) (fun _ _ _ h => h) (Or.inl ⟨by rfl, ?hy13_111⟩) (by assumption) ?rest13_111
        case hy13_111 =>
          intro w hSw
          try dsimp only at hSw
          obtain ⟨hSa, hSb, hSc⟩ := hSw
          go_simp
          try with_reducible rfl
        try simp only [Act.put, List.setIfInBounds_toArray, List.set_cons_zero, List.set_cons_succ]
        refine wpAnyH_take (i := 14) (oi := { dst := some 54, op := Op.load 41 (Operand.tmp 53), type := 41, pos := "law.go:68", after := #[{ on := 13, ground := Ground.data }, { on := 8, ground := Ground.guard }], guard := some (8, false) }) (v := ?vv14_112) rfl (by kernel_rfl) (by kernel_rfl) (by kernel_rfl) (fun _ _ _ h => h) (Or.inl ⟨by rfl, ?hy14_112⟩) (by assumption) ?rest14_112
        case hy14_112 =>
          intro w hSw
          try dsimp only at hSw
          obtain ⟨hSa, hSb, hSc⟩ := hSw
          go_simp
          try with_reducible rfl
        try simp only [Act.put, List.setIfInBounds_toArray, List.set_cons_zero, List.set_cons_succ]
        refine wpAnyH_take (i := 15) (oi := { dst := some 55, op := Op.nilCheck (Operand.tmp 54), type := 0, pos := "law.go:68", after := #[{ on := 14, ground := Ground.data }, { on := 8, ground := Ground.guard }], guard := some (8, false) }) (v := ?vv15_113) rfl (by kernel_rfl) (by kernel_rfl) (by kernel_rfl) (fun _ _ _ h => h) (Or.inl ⟨by rfl, ?hy15_113⟩) (by assumption) ?rest15_113
        case hy15_113 =>
          intro w hSw
          try dsimp only at hSw
          obtain ⟨hSa, hSb, hSc⟩ := hSw
          go_simp
          try with_reducible rfl
        try simp only [Act.put, List.setIfInBounds_toArray, List.set_cons_zero, List.set_cons_succ]
        refine wpAnyH_take (i := 16) (oi := { dst := some 56, op := Op.fieldAddr 40 (Operand.tmp 55) 0, type := 0, pos := "law.go:68", after := #[{ on := 15, ground := Ground.data }, { on := 8, ground := Ground.guard }], guard := some (8, false) }) (v := ?vv16_114) rfl (by kernel_rfl) (by kernel_rfl) (by kernel_rfl) (fun _ _ _ h => h) (Or.inl ⟨by rfl, ?hy16_114⟩) (by assumption) ?rest16_114
        case hy16_114 =>
          intro w hSw
          try dsimp only at hSw
          obtain ⟨hSa, hSb, hSc⟩ := hSw
          go_simp
          try with_reducible rfl
        try simp only [Act.put, List.setIfInBounds_toArray, List.set_cons_zero, List.set_cons_succ]
        refine wpAnyH_take (i := 17) (oi := { dst := some 57, op := Op.load 38 (Operand.tmp 56), type := 38, pos := "law.go:68", after := #[{ on := 16, ground := Ground.data }, { on := 8, ground := Ground.guard }], guard := some (8, false) }) (v := ?vv17_115) rfl (by kernel_rfl) (by kernel_rfl) (by kernel_rfl) (fun _ _ _ h => h) (Or.inl ⟨by rfl, ?hy17_115⟩) (by assumption) ?rest17_115
        case hy17_115 =>
          intro w hSw
          try dsimp only at hSw
          obtain ⟨hSa, hSb, hSc⟩ := hSw
          go_simp
          try with_reducible rfl
        try simp only [Act.put, List.setIfInBounds_toArray, List.set_cons_zero, List.set_cons_succ]
        refine wpAnyH_take (i := 18) (oi := { dst := some 58, op := Op.call { callee := Callee.builtin Builtin.len, args := #[Operand.tmp 57], argTypes := #[38] }, type := 3, pos := "law.go:68", after := #[{ on := 17, ground := Ground.data }, { on := 8, ground := Ground.guard }], guard := some (8, false) }) (v := ?vv18_116) rfl (by kernel_rfl) (by kernel_rfl) (by kernel_rfl) (fun _ _ _ h => h) (Or.inl ⟨by rfl, ?hy18_116⟩) (by assumption) ?rest18_116
        case hy18_116 =>
          intro w hSw
          try dsimp only at hSw
          obtain ⟨hSa, hSb, hSc⟩ := hSw
          go_simp
          try with_reducible rfl
        try simp only [Act.put, List.setIfInBounds_toArray, List.set_cons_zero, List.set_cons_succ]
        refine wpAnyH_ready (rs := [10]) (by kernel_rfl) (by simp) ?_
        refine AllReadyH.cons (o := { dst := some 50, op := Op.call { callee := Callee.value (Operand.func 8), args := #[Operand.tmp 49], argTypes := #[23] }, type := 3, pos := "law.go:68", after := #[{ on := 9, ground := Ground.data }, { on := 8, ground := Ground.chain }, { on := 8, ground := Ground.guard }], guard := some (8, false) }) rfl (fun K hK => ?_) AllReadyH.nil
        go_simp
        go_at_call 8
        (with_reducible refine hlen5'.out.mono ?_)
        rintro e w6 ⟨rfl, rfl⟩
        go_wp2_with fail
        refine hK.out _ _ c5 (fun hHeld => ?_)
        clear hK K
        try simp only [Act.put, List.setIfInBounds_toArray, List.set_cons_zero, List.set_cons_succ]
        refine wpAnyH_take (i := 19) (oi := { dst := some 59, op := Op.binOp BinOp.neq 3 (Operand.tmp 50) (Operand.tmp 58) 3, type := 4, pos := "law.go:68", after := #[{ on := 10, ground := Ground.data }, { on := 18, ground := Ground.data }, { on := 8, ground := Ground.guard }], guard := some (8, false) }) (v := ?vv19_117) rfl (by kernel_rfl) (by kernel_rfl) (by kernel_rfl) (fun _ _ _ h => h) (Or.inl ⟨by rfl, ?hy19_117⟩) (by assumption) ?rest19_117
        case hy19_117 =>
          intro w hSw
          try dsimp only at hSw
          obtain ⟨hSa, hSb, hSc⟩ := hSw
          go_simp
          try with_reducible rfl
        try simp only [Act.put, List.setIfInBounds_toArray, List.set_cons_zero, List.set_cons_succ]
        refine wpAnyH_take (i := 20) (oi := { dst := some 60, op := Op.pick (Operand.tmp 48) (Operand.const (Value.bool true)) (Operand.tmp 59), type := 4, pos := "law.go:68", after := #[{ on := 8, ground := Ground.data }, { on := 19, ground := Ground.data }], guard := none }) (v := ?vv20_118) rfl (by kernel_rfl) (by kernel_rfl) (by kernel_rfl) (fun _ _ _ h => h) (Or.inl ⟨by rfl, ?hy20_118⟩) (by assumption) ?rest20_118
        case hy20_118 =>
          intro w hSw
          try dsimp only at hSw
          obtain ⟨hSa, hSb, hSc⟩ := hSw
          go_simp
          try with_reducible rfl
        try simp only [Act.put, List.setIfInBounds_toArray, List.set_cons_zero, List.set_cons_succ]
        refine wpAnyH_take (i := 21) (oi := { dst := some 61, op := Op.move (Operand.tmp 60), type := 4, pos := "law.go:68", after := #[{ on := 20, ground := Ground.data }, { on := 10, ground := Ground.chain }], guard := none }) (v := ?vv21_119) rfl (by kernel_rfl) (by kernel_rfl) (by kernel_rfl) (fun _ _ _ h => h) (Or.inl ⟨by rfl, ?hy21_119⟩) (by assumption) ?rest21_119
        case hy21_119 =>
          intro w hSw
          try dsimp only at hSw
          obtain ⟨hSa, hSb, hSc⟩ := hSw
          go_simp
          try with_reducible rfl
        try simp only [Act.put, List.setIfInBounds_toArray, List.set_cons_zero, List.set_cons_succ]
        refine wpAnyH_take (i := 22) (oi := { dst := some 62, op := Op.move (Operand.tmp 5), type := 23, pos := "law.go:68", after := #[{ on := 21, ground := Ground.guard }], guard := some (21, false) }) (v := ?vv22_120) rfl (by kernel_rfl) (by kernel_rfl) (by kernel_rfl) (fun _ _ _ h => h) (Or.inl ⟨by rfl, ?hy22_120⟩) (by assumption) ?rest22_120
        case hy22_120 =>
          intro w hSw
          try dsimp only at hSw
          obtain ⟨hSa, hSb, hSc⟩ := hSw
          go_simp
          try with_reducible rfl
        try simp only [Act.put, List.setIfInBounds_toArray, List.set_cons_zero, List.set_cons_succ]
        refine wpAnyH_take (i := 24) (oi := { dst := some 64, op := Op.move (Operand.tmp 7), type := 27, pos := "law.go:68", after := #[{ on := 21, ground := Ground.guard }], guard := some (21, false) }) (v := ?vv24_121) rfl (by kernel_rfl) (by kernel_rfl) (by kernel_rfl) (fun _ _ _ h => h) (Or.inl ⟨by rfl, ?hy24_121⟩) (by assumption) ?rest24_121
        case hy24_121 =>
          intro w hSw
          try dsimp only at hSw
          obtain ⟨hSa, hSb, hSc⟩ := hSw
          go_simp
          try with_reducible rfl
        try simp only [Act.put, List.setIfInBounds_toArray, List.set_cons_zero, List.set_cons_succ]
        refine wpAnyH_take (i := 25) (oi := { dst := some 65, op := Op.nilCheck (Operand.tmp 64), type := 0, pos := "law.go:68", after := #[{ on := 24, ground := Ground.data }, { on := 21, ground := Ground.guard }], guard := some (21, false) }) (v := ?vv25_122) rfl (by kernel_rfl) (by kernel_rfl) (by kernel_rfl) (fun _ _ _ h => h) (Or.inl ⟨by rfl, ?hy25_122⟩) (by assumption) ?rest25_122
        case hy25_122 =>
          intro w hSw
          try dsimp only at hSw
          obtain ⟨hSa, hSb, hSc⟩ := hSw
          go_simp
          try with_reducible rfl
        try simp only [Act.put, List.setIfInBounds_toArray, List.set_cons_zero, List.set_cons_succ]
        refine wpAnyH_take (i := 26) (oi := { dst := some 66, op := Op.fieldAddr 43 (Operand.tmp 65) 1, type := 0, pos := "law.go:68", after := #[{ on := 25, ground := Ground.data }, { on := 21, ground := Ground.guard }], guard := some (21, false) }) (v := ?vv26_123) rfl (by kernel_rfl) (by kernel_rfl) (by kernel_rfl) (fun _ _ _ h => h) (Or.inl ⟨by rfl, ?hy26_123⟩) (by assumption) ?rest26_123
        case hy26_123 =>
          intro w hSw
          try dsimp only at hSw
          obtain ⟨hSa, hSb, hSc⟩ := hSw
          go_simp
          try with_reducible rfl
        try simp only [Act.put, List.setIfInBounds_toArray, List.set_cons_zero, List.set_cons_succ]
        refine wpAnyH_take (i := 27) (oi := { dst := some 67, op := Op.load 3 (Operand.tmp 66), type := 3, pos := "law.go:68", after := #[{ on := 26, ground := Ground.data }, { on := 21, ground := Ground.guard }], guard := some (21, false) }) (v := ?vv27_124) rfl (by kernel_rfl) (by kernel_rfl) (by kernel_rfl) (fun _ _ _ h => h) (Or.inl ⟨by rfl, ?hy27_124⟩) (by assumption) ?rest27_124
        case hy27_124 =>
          intro w hSw
          try dsimp only at hSw
          obtain ⟨hSa, hSb, hSc⟩ := hSw
          go_simp
          try with_reducible rfl
        try simp only [Act.put, List.setIfInBounds_toArray, List.set_cons_zero, List.set_cons_succ]
        refine wpAnyH_ready (rs := [23]) (by kernel_rfl) (by simp) ?_
        refine AllReadyH.cons (o := { dst := some 63, op := Op.call { callee := Callee.value (Operand.func 9), args := #[Operand.tmp 62], argTypes := #[23] }, type := 3, pos := "law.go:68", after := #[{ on := 22, ground := Ground.data }, { on := 21, ground := Ground.chain }, { on := 21, ground := Ground.guard }], guard := some (21, false) }) rfl (fun K hK => ?_) AllReadyH.nil
        go_simp
        go_at_call 9
        (with_reducible refine hkind5'.out.mono ?_)
        rintro e w6 ⟨rfl, rfl⟩
        go_wp2_with fail
        refine hK.out _ _ c5 (fun hHeld => ?_)
        clear hK K
        try simp only [Act.put, List.setIfInBounds_toArray, List.set_cons_zero, List.set_cons_succ]
        refine wpAnyH_take (i := 28) (oi := { dst := some 68, op := Op.binOp BinOp.neq 3 (Operand.tmp 63) (Operand.tmp 67) 3, type := 4, pos := "law.go:68", after := #[{ on := 23, ground := Ground.data }, { on := 27, ground := Ground.data }, { on := 21, ground := Ground.guard }], guard := some (21, false) }) (v := ?vv28_125) rfl (by kernel_rfl) (by kernel_rfl) (by kernel_rfl) (fun _ _ _ h => h) (Or.inl ⟨by rfl, ?hy28_125⟩) (by assumption) ?rest28_125
        case hy28_125 =>
          intro w hSw
          try dsimp only at hSw
          obtain ⟨hSa, hSb, hSc⟩ := hSw
          go_simp
          try with_reducible rfl
        try simp only [Act.put, List.setIfInBounds_toArray, List.set_cons_zero, List.set_cons_succ]
        refine wpAnyH_take (i := 29) (oi := { dst := some 69, op := Op.pick (Operand.tmp 61) (Operand.const (Value.bool true)) (Operand.tmp 68), type := 4, pos := "law.go:68", after := #[{ on := 21, ground := Ground.data }, { on := 28, ground := Ground.data }], guard := none }) (v := ?vv29_126) rfl (by kernel_rfl) (by kernel_rfl) (by kernel_rfl) (fun _ _ _ h => h) (Or.inl ⟨by rfl, ?hy29_126⟩) (by assumption) ?rest29_126
        case hy29_126 =>
          intro w hSw
          try dsimp only at hSw
          obtain ⟨hSa, hSb, hSc⟩ := hSw
          go_simp
          try with_reducible rfl
        try simp only [Act.put, List.setIfInBounds_toArray, List.set_cons_zero, List.set_cons_succ]
        refine wpAnyH_take (i := 30) (oi := { dst := some 70, op := Op.move (Operand.tmp 69), type := 4, pos := "law.go:68", after := #[{ on := 29, ground := Ground.data }, { on := 23, ground := Ground.chain }], guard := none }) (v := ?vv30_127) rfl (by kernel_rfl) (by kernel_rfl) (by kernel_rfl) (fun _ _ _ h => h) (Or.inl ⟨by rfl, ?hy30_127⟩) (by assumption) ?rest30_127
        case hy30_127 =>
          intro w hSw
          try dsimp only at hSw
          obtain ⟨hSa, hSb, hSc⟩ := hSw
          go_simp
          try with_reducible rfl
        try simp only [Act.put, List.setIfInBounds_toArray, List.set_cons_zero, List.set_cons_succ]
        refine wpAnyH_take (i := 31) (oi := { dst := some 71, op := Op.move (Operand.tmp 9), type := 3, pos := "law.go:68", after := #[{ on := 30, ground := Ground.guard }], guard := some (30, false) }) (v := ?vv31_128) rfl (by kernel_rfl) (by kernel_rfl) (by kernel_rfl) (fun _ _ _ h => h) (Or.inl ⟨by rfl, ?hy31_128⟩) (by assumption) ?rest31_128
        case hy31_128 =>
          intro w hSw
          try dsimp only at hSw
          obtain ⟨hSa, hSb, hSc⟩ := hSw
          go_simp
          try with_reducible rfl
        try simp only [Act.put, List.setIfInBounds_toArray, List.set_cons_zero, List.set_cons_succ]
        refine wpAnyH_take (i := 32) (oi := { dst := some 72, op := Op.binOp BinOp.lss 3 (Operand.tmp 71) (Operand.const (Value.int IntKind.i64 100)) 3, type := 4, pos := "law.go:68", after := #[{ on := 31, ground := Ground.data }, { on := 30, ground := Ground.guard }], guard := some (30, false) }) (v := ?vv32_129) rfl (by kernel_rfl) (by kernel_rfl) (by kernel_rfl) (fun _ _ _ h => h) (Or.inl ⟨by rfl, ?hy32_129⟩) (by assumption) ?rest32_129
        case hy32_129 =>
          intro w hSw
          try dsimp only at hSw
          obtain ⟨hSa, hSb, hSc⟩ := hSw
          go_simp
          try with_reducible rfl
        try simp only [Act.put, List.setIfInBounds_toArray, List.set_cons_zero, List.set_cons_succ]
        refine wpAnyH_take (i := 33) (oi := { dst := some 73, op := Op.move (Operand.tmp 72), type := 4, pos := "law.go:68", after := #[{ on := 32, ground := Ground.data }, { on := 30, ground := Ground.chain }, { on := 30, ground := Ground.guard }], guard := some (30, false) }) (v := ?vv33_130) rfl (by kernel_rfl) (by kernel_rfl) (by kernel_rfl) (fun _ _ _ h => h) (Or.inl ⟨by rfl, ?hy33_130⟩) (by assumption) ?rest33_130
        case hy33_130 =>
          intro w hSw
          try dsimp only at hSw
          obtain ⟨hSa, hSb, hSc⟩ := hSw
          go_simp
          try with_reducible rfl
        try simp only [Act.put, List.setIfInBounds_toArray, List.set_cons_zero, List.set_cons_succ]
        refine wpAnyH_take (i := 34) (oi := { dst := some 74, op := Op.move (Operand.tmp 5), type := 23, pos := "law.go:68", after := #[{ on := 33, ground := Ground.guard }], guard := some (33, true) }) rfl (by kernel_rfl) (by kernel_rfl) (by kernel_rfl) (fun _ _ _ h => h) (Or.inr ⟨by rfl, rfl⟩) (by assumption) ?_
        try simp only [Act.put, List.setIfInBounds_toArray, List.set_cons_zero, List.set_cons_succ]
        refine wpAnyH_take (i := 36) (oi := { dst := some 76, op := Op.move (Operand.tmp 7), type := 27, pos := "law.go:68", after := #[{ on := 33, ground := Ground.guard }], guard := some (33, true) }) rfl (by kernel_rfl) (by kernel_rfl) (by kernel_rfl) (fun _ _ _ h => h) (Or.inr ⟨by rfl, rfl⟩) (by assumption) ?_
        try simp only [Act.put, List.setIfInBounds_toArray, List.set_cons_zero, List.set_cons_succ]
        refine wpAnyH_take (i := 37) (oi := { dst := some 77, op := Op.nilCheck (Operand.tmp 76), type := 0, pos := "law.go:68", after := #[{ on := 36, ground := Ground.data }, { on := 33, ground := Ground.guard }], guard := some (33, true) }) rfl (by kernel_rfl) (by kernel_rfl) (by kernel_rfl) (fun _ _ _ h => h) (Or.inr ⟨by rfl, rfl⟩) (by assumption) ?_
        try simp only [Act.put, List.setIfInBounds_toArray, List.set_cons_zero, List.set_cons_succ]
        refine wpAnyH_take (i := 38) (oi := { dst := some 78, op := Op.fieldAddr 43 (Operand.tmp 77) 0, type := 0, pos := "law.go:68", after := #[{ on := 37, ground := Ground.data }, { on := 33, ground := Ground.guard }], guard := some (33, true) }) rfl (by kernel_rfl) (by kernel_rfl) (by kernel_rfl) (fun _ _ _ h => h) (Or.inr ⟨by rfl, rfl⟩) (by assumption) ?_
        try simp only [Act.put, List.setIfInBounds_toArray, List.set_cons_zero, List.set_cons_succ]
        refine wpAnyH_take (i := 39) (oi := { dst := some 79, op := Op.load 41 (Operand.tmp 78), type := 41, pos := "law.go:68", after := #[{ on := 38, ground := Ground.data }, { on := 33, ground := Ground.guard }], guard := some (33, true) }) rfl (by kernel_rfl) (by kernel_rfl) (by kernel_rfl) (fun _ _ _ h => h) (Or.inr ⟨by rfl, rfl⟩) (by assumption) ?_
        try simp only [Act.put, List.setIfInBounds_toArray, List.set_cons_zero, List.set_cons_succ]
        refine wpAnyH_take (i := 40) (oi := { dst := some 80, op := Op.nilCheck (Operand.tmp 79), type := 0, pos := "law.go:68", after := #[{ on := 39, ground := Ground.data }, { on := 33, ground := Ground.guard }], guard := some (33, true) }) rfl (by kernel_rfl) (by kernel_rfl) (by kernel_rfl) (fun _ _ _ h => h) (Or.inr ⟨by rfl, rfl⟩) (by assumption) ?_
        try simp only [Act.put, List.setIfInBounds_toArray, List.set_cons_zero, List.set_cons_succ]
        refine wpAnyH_take (i := 41) (oi := { dst := some 81, op := Op.fieldAddr 40 (Operand.tmp 80) 0, type := 0, pos := "law.go:68", after := #[{ on := 40, ground := Ground.data }, { on := 33, ground := Ground.guard }], guard := some (33, true) }) rfl (by kernel_rfl) (by kernel_rfl) (by kernel_rfl) (fun _ _ _ h => h) (Or.inr ⟨by rfl, rfl⟩) (by assumption) ?_
        try simp only [Act.put, List.setIfInBounds_toArray, List.set_cons_zero, List.set_cons_succ]
        refine wpAnyH_take (i := 42) (oi := { dst := some 82, op := Op.load 38 (Operand.tmp 81), type := 38, pos := "law.go:68", after := #[{ on := 41, ground := Ground.data }, { on := 33, ground := Ground.guard }], guard := some (33, true) }) rfl (by kernel_rfl) (by kernel_rfl) (by kernel_rfl) (fun _ _ _ h => h) (Or.inr ⟨by rfl, rfl⟩) (by assumption) ?_
        try simp only [Act.put, List.setIfInBounds_toArray, List.set_cons_zero, List.set_cons_succ]
        refine wpAnyH_ready (rs := [35]) (by kernel_rfl) (by simp) ?_
        refine AllReadyH.cons (o := { dst := some 75, op := Op.call { callee := Callee.value (Operand.func 11), args := #[Operand.tmp 74], argTypes := #[23] }, type := 38, pos := "law.go:68", after := #[{ on := 34, ground := Ground.data }, { on := 33, ground := Ground.chain }, { on := 33, ground := Ground.guard }], guard := some (33, true) }) rfl (fun K hK => ?_) AllReadyH.nil
        go_simp
        refine hK.out _ _ c5 (fun hHeld => ?_)
        clear hK K
        try simp only [Act.put, List.setIfInBounds_toArray, List.set_cons_zero, List.set_cons_succ]
        refine wpAnyH_ready (rs := [43]) (by kernel_rfl) (by simp) ?_
        refine AllReadyH.cons (o := { dst := some 83, op := Op.call { callee := Callee.value (Operand.func 10), args := #[Operand.tmp 75, Operand.tmp 82], argTypes := #[38, 38] }, type := 4, pos := "law.go:68", after := #[{ on := 35, ground := Ground.data }, { on := 42, ground := Ground.data }, { on := 35, ground := Ground.chain }, { on := 33, ground := Ground.guard }], guard := some (33, true) }) rfl (fun K hK => ?_) AllReadyH.nil
        go_simp
        refine hK.out _ _ c5 (fun hHeld => ?_)
        clear hK K
        try simp only [Act.put, List.setIfInBounds_toArray, List.set_cons_zero, List.set_cons_succ]
        refine wpAnyH_take (i := 44) (oi := { dst := some 84, op := Op.unOp UnOp.not 4 (Operand.tmp 83), type := 4, pos := "law.go:68", after := #[{ on := 43, ground := Ground.data }, { on := 33, ground := Ground.guard }], guard := some (33, true) }) rfl (by kernel_rfl) (by kernel_rfl) (by kernel_rfl) (fun _ _ _ h => h) (Or.inr ⟨by rfl, rfl⟩) (by assumption) ?_
        try simp only [Act.put, List.setIfInBounds_toArray, List.set_cons_zero, List.set_cons_succ]
        refine wpAnyH_take (i := 45) (oi := { dst := some 85, op := Op.pick (Operand.tmp 73) (Operand.tmp 84) (Operand.const (Value.bool false)), type := 4, pos := "law.go:68", after := #[{ on := 33, ground := Ground.data }, { on := 44, ground := Ground.data }, { on := 30, ground := Ground.guard }], guard := some (30, false) }) (v := ?vv45_131) rfl (by kernel_rfl) (by kernel_rfl) (by kernel_rfl) (fun _ _ _ h => h) (Or.inl ⟨by rfl, ?hy45_131⟩) (by assumption) ?rest45_131
        case hy45_131 =>
          intro w hSw
          try dsimp only at hSw
          obtain ⟨hSa, hSb, hSc⟩ := hSw
          go_simp
          try with_reducible rfl
        try simp only [Act.put, List.setIfInBounds_toArray, List.set_cons_zero, List.set_cons_succ]
        refine wpAnyH_take (i := 46) (oi := { dst := some 86, op := Op.pick (Operand.tmp 70) (Operand.const (Value.bool true)) (Operand.tmp 85), type := 4, pos := "law.go:68", after := #[{ on := 30, ground := Ground.data }, { on := 45, ground := Ground.data }], guard := none }) (v := ?vv46_132) rfl (by kernel_rfl) (by kernel_rfl) (by kernel_rfl) (fun _ _ _ h => h) (Or.inl ⟨by rfl, ?hy46_132⟩) (by assumption) ?rest46_132
        case hy46_132 =>
          intro w hSw
          try dsimp only at hSw
          obtain ⟨hSa, hSb, hSc⟩ := hSw
          go_simp
          try with_reducible rfl
        try simp only [Act.put, List.setIfInBounds_toArray, List.set_cons_zero, List.set_cons_succ]
        refine wpAnyH_done (by kernel_rfl) ?_ _
        go_wp2
        refine ⟨⟨i + 1, hi'.out, by go_num, ⟨K5, T5, hM5'.out⟩⟩, ?_⟩
        have := hi'.out
        simp [intOf]
        omega
    · obtain rfl : i = len := by omega
      have hz : ¬ (i : Int) < (i : Int) := by omega
      have haw : Hid (Calls Tryz.prog 12 #[] wr fun e w' => e = .returned (.bool true) ∧ Below w.heap.size w w') := by
        obtain ⟨K1, T, hT⟩ := hM.out
        exact (awake9_any wr).mono fun e w' hh => ⟨hh.1, hT.b.trans (hh.2.mono hT.b.size)⟩
      clear hM
      go_wp2_with (go_at_call 12; (with_reducible refine haw.out.mono ?_); rintro e w' ⟨rfl, hb⟩; have hb' := Lib.hid hb; clear hb)
      go_ret
      exact ⟨rfl, hb'.out⟩
set_option maxHeartbeats 1000000 in
theorem lawPendPlays (kd : Int) (hWf : (Lit.int .i64 kd).wf = true) {w : World} {a : Option Addr} {len cap : Nat} (h : Ops w a len cap) :
    Calls Tryz.prog 3 #[.int .i64 kd, .slice a len cap] w fun e w' => e = .returned (.bool true) ∧ Below w.heap.size w w' := by
  cases hk : KindOf kd with
  | some K => exact lawPendPlays_some kd hk h
  | none =>
    have hnew := pdNew_no w hk
    have hrn := r9New_no w hk
    have haw := awake9_any w
    clear h hk hWf
    go_enter Tryz.func3, Tryz.ntmps3
    go_upto_region 3 with (first
      | (go_at_call 5; (with_reducible refine hnew.mono ?_); rintro e w1 ⟨rfl, rfl⟩)
      | (go_at_call 6; (with_reducible refine hrn.mono ?_); rintro e w2 ⟨rfl, rfl⟩))
    clear hnew hrn
    go_wp2
    go_loopw [9] (fun s9 wr => s9 = .int .i64 0 ∧ wr = w) (fun _ _ => 0)
    case atStart => exact ⟨rfl, rfl⟩
    case round =>
      obtain ⟨rfl, rfl⟩ := hrel
      go_wp2_with (go_at_call 12; (with_reducible refine haw.mono ?_); rintro e w2 ⟨rfl, hb2⟩; have hb2' := Lib.hid hb2; clear hb2)
      go_ret
      exact ⟨rfl, hb2'.out⟩
end Go.Proofs.YtjlbkdghlijoeaaGreat
