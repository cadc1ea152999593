
/-
  The law that tallies and a token play as the document's (begun).
-/
import Derived.Test.YtobfjfmaicmkdaaUV
import Derived.Test.YtobfjfmaicmkdaaGZ
import Derived.Deep.CutBlock
namespace Go.Proofs.Ytobfjfmaicmkdaa
open Go.ChangeShapes Go.WideShapes Go.ChangeAt Go.Shelf Go.RowKit Go.Lib Go.Sort Go.Deep Col
set_option linter.unusedVariables false
set_option linter.unusedSimpArgs false
set_option maxRecDepth 4000

theorem infoPT2 : (Try.prog.info? 33).map (fun i => (i.zero, i.size, i.bytes)) = some (some (.pointer none), 1, 8) := by kernel_rfl
theorem infoPRT : (Try.prog.info? 35).map (fun i => (i.zero, i.size, i.bytes)) = some (some (.pointer none), 1, 8) := by kernel_rfl
section
variable {w wr w' w1 w2 : World} {v u : Value} {kb kd n m : Nat} {ts ts2 : Nat → Ta} {k k2 : Tk}
def MoreP (w : World) (v u : Value) (kb kd n m : Nat) (ts ts2 : Nat → Ta) (k k2 : Tk) (wr : World) (pa : Nat → Nat) : Prop := ∀ p S w1, Hid (TaAt w1 p S Ta.new ∧ (∀ j, S j → wr.heap.size ≤ j) ∧ Below wr.heap.size wr w1) →
    Hid (RowAt (w1.alloc (.cells #[.pointer (some ⟨p, 0, none⟩)] 33)) 33 1 v n (ptrs pa n)) ∧ Hid (∀ g off cap w4, Hid (RowIn w4 33 1 g off (n + 1) cap (ptrs pa n ++ [Value.pointer (some ⟨p, 0, none⟩)])) → Hid (KeptOff (fun j => v.ownBlock = some j) (w1.alloc (.cells #[.pointer (some ⟨p, 0, none⟩)] 33)) w4) → Hid (v.ownBlock = some g ∨ (w1.alloc (.cells #[.pointer (some ⟨p, 0, none⟩)] 33)).heap.size ≤ g) → Hid (Mx w (.slice (some ⟨g, off, none⟩) (n + 1) cap) u kb kd (n + 1) m (upd ts n Ta.new) ts2 k k2 w4))
theorem Mx.readyP (h : Mx w v u kb kd n m ts ts2 k k2 wr) : ∃ pa, Hid (MoreP w v u kb kd n m ts ts2 k k2 wr pa) := by
  obtain ⟨σ, pa, qa, h1, h2, h3, h4, h5⟩ := h
  refine ⟨pa, Lib.hid (fun p S w1 hh => ?_)⟩
  have hm := Mx.moreP h1 h2 h3 h4 h5 hh.out.1 hh.out.2.1 hh.out.2.2
  exact ⟨hm.1, fun g off cap w4 x1 x2 x3 => hm.2 g off cap w4 x1.out x2.out x3.out⟩
def MoreD (w : World) (v u : Value) (kb kd n m : Nat) (ts ts2 : Nat → Ta) (k k2 : Tk) (wr : World) (pa : Nat → Nat) : Prop := ∀ p S w1, Hid (DTaAt w1 p S Ta.new ∧ (∀ j, S j → wr.heap.size ≤ j) ∧ Below wr.heap.size wr w1) →
    Hid (RowAt (w1.alloc (.cells #[.pointer (some ⟨p, 0, none⟩)] 35)) 35 1 u m (ptrs pa m)) ∧ Hid (∀ g off cap w4, Hid (RowIn w4 35 1 g off (m + 1) cap (ptrs pa m ++ [Value.pointer (some ⟨p, 0, none⟩)])) → Hid (KeptOff (fun j => u.ownBlock = some j) (w1.alloc (.cells #[.pointer (some ⟨p, 0, none⟩)] 35)) w4) → Hid (u.ownBlock = some g ∨ (w1.alloc (.cells #[.pointer (some ⟨p, 0, none⟩)] 35)).heap.size ≤ g) → Hid (Mx w v (.slice (some ⟨g, off, none⟩) (m + 1) cap) kb kd n (m + 1) ts (upd ts2 m Ta.new) k k2 w4))
theorem Mx.readyD (h : Mx w v u kb kd n m ts ts2 k k2 wr) : ∃ pa, Hid (MoreD w v u kb kd n m ts ts2 k k2 wr pa) := by
  obtain ⟨σ, pa, qa, h1, h2, h3, h4, h5⟩ := h
  refine ⟨qa, Lib.hid (fun p S w1 hh => ?_)⟩
  have hm := Mx.moreD h1 h2 h3 h4 h5 hh.out.1 hh.out.2.1 hh.out.2.2
  exact ⟨hm.1, fun g off cap w4 x1 x2 x3 => hm.2 g off cap w4 x1.out x2.out x3.out⟩
end
theorem tmod_bd (n k : Int) (hk : 0 < k) : -k < n.tmod k ∧ n.tmod k < k := by
  have h1 := Int.emod_nonneg n (show k ≠ 0 by omega)
  have h2 := Int.emod_lt_of_pos n hk
  have h := Int.tmod_eq_emod (a := n) (b := k)
  rw [h]
  split <;> omega
def ts0 : Nat → Ta := fun _ => Ta.new
theorem ts0_same (n : Nat) : upd ts0 n Ta.new = ts0 := by
  funext j
  by_cases e : j = n
  · subst e; rw [upd_same]; rfl
  · rw [upd_ne _ _ e]
set_option maxHeartbeats 16000000 in
set_option maxRecDepth 100000 in
theorem lawColourPlays {w : World} (n : Int) (hnw : (Lit.int .i64 n).wf = true) {a : Option Addr} {len cap : Nat} (h : Ops w a len cap) (hreach : len * 32 ≤ 140737488351232) : Calls Try.prog 3 #[.int .i64 n, .slice a len cap] w fun e w' => e = .returned (.bool true) ∧ Below w.heap.size w w' := by
  have mixed := mixed
  obtain ⟨hcap1, hcap2, hops⟩ := h
  have hmx : len ≤ 9223372036854775807 ∧ cap ≤ 9223372036854775807 := by unfold maxLen at hcap2; omega
  obtain ⟨hmx, hcm⟩ := hmx
  have hops' := Lib.hid hops
  clear hops hcap1 hcap2
  by_cases hn : 1 ≤ n ∧ n ≤ 16
  · have ht1 := Lib.hid (coToken_yes n hn w)
    have ht2 : Hid (∀ w1, _) := Lib.hid (fun w1 => rcToken_yes n hn w1)
    obtain ⟨N, rfl⟩ : ∃ N : Nat, n = (N : Int) := ⟨n.toNat, by omega⟩
    rw [Int.toNat_natCast] at ht1
    simp only [Int.toNat_natCast] at ht2
    obtain ⟨hn1, hn2⟩ := hn
    have hN1 : 1 ≤ N := by omega
    have hN2 : N ≤ 16 := by omega
    obtain ⟨i0, hi0, hz0, hz1, hz2⟩ := info_parts infoPT2
    obtain ⟨i1, hi1, hy0, hy1, hy2⟩ := info_parts infoPRT
    clear hn1 hn2 hnw
    go_enter Try.func3, Try.ntmps3
    go_upto_region 2 with (go_at_call 7; refine ht1.out.mono ?_; rintro e w1 ⟨kb, X, rfl, hM1⟩)
    have ht3 := Lib.hid (ht2.out w1)
    go_upto_region 3 with (go_at_call 8; refine ht3.out.mono ?_; rintro e w2 ⟨kd, Y, rfl, hM2⟩)
    have hL0 : Hid (Mx w (.slice none 0 0) (.slice none 0 0) kb kd 0 0 ts0 ts0 (Tk.new N) (Tk.new N) w2) := Mx.start hM1.out.1 hM1.out.2.1 hM1.out.2.2 hM2.out.1 hM2.out.2.1 hM2.out.2.2 _ _
    clear ht1 ht2 ht3 hM1 hM2
    go_wp2_with fail
    go_loopw [9, 10, 11] (fun s9 s10 s11 wr => ∃ (i : Nat) (v u : Value), i ≤ N ∧ s11 = .int .i64 i ∧ s9 = v ∧ s10 = u ∧ Hid (Mx w v u kb kd i i ts0 ts0 (Tk.new N) (Tk.new N) wr)) (fun _ _ s11 _ => N - (intOf s11).toNat)
    case atStart => exact ⟨0, _, _, Nat.zero_le _, rfl, rfl, rfl, hL0⟩
    case round =>
      obtain ⟨i, v, u, hi, rfl, hv, hu, hM⟩ := hrel
      obtain rfl := hv.symm
      obtain rfl := hu.symm
      clear hL0
      by_cases hiN : i < N
      · have hz : (i : Int) < (N : Int) := by omega
        have hiN' := Lib.hid hiN
        clear hiN
        obtain ⟨pa, hmo⟩ := hM.out.readyP
        clear hM
        have hw1 : IntKind.i64.wrap ((i : Int) + 1) = (i : Int) + 1 := IntWalk.i64_in _ (by omega)
        go_upto_region 16 with (first
          | (go_at_call 10; refine (coNew_any wr).mono ?_; rintro e w2 ⟨p, S, rfl, hN⟩; have hm := hmo.out p S w2 hN; have hav := hm.1; have hm2 := hm.2; clear hm hN)
          | (at_builtin; refine wpList_append_row rfl (.tmp 52) (.tmp 54) 31 rfl hav.out i0 _ 8 Try.underlying31 hi0 hz0 hz1 hz2 rfl (by omega) rfl ⟨w2.heap.size, 0, none⟩ 1 [.pointer (some ⟨p, 0, none⟩)] rfl rfl (cell_one_new _ _ _) (by simp [Value.oneCell']) (by unfold maxLen; omega) (by omega) ?_; intro g off cap w4 r1 r2 r3; have hnx := hm2.out g off cap w4 r1 r2 r3; clear r1 r2 r3))
        clear hmo hav hm2
        rw [ts0_same] at hnx
        obtain ⟨qa, hmo⟩ := hnx.out.readyD
        clear hnx
        go_upto_region 11 with (first
          | (go_at_call 11; refine (rcNew_any w4).mono ?_; rintro e w5 ⟨p2, S2, rfl, hN⟩; have hm := hmo.out p2 S2 w5 hN; have hav := hm.1; have hm2 := hm.2; clear hm hN)
          | (at_builtin; refine wpList_append_row rfl (.tmp 56) (.tmp 58) 32 rfl hav.out i1 _ 8 Try.underlying32 hi1 hy0 hy1 hy2 rfl (by omega) rfl ⟨w5.heap.size, 0, none⟩ 1 [.pointer (some ⟨p2, 0, none⟩)] rfl rfl (cell_one_new _ _ _) (by simp [Value.oneCell']) (by unfold maxLen; omega) (by omega) ?_; intro g2 off2 cap2 w6 r1 r2 r3; have hnx := hm2.out g2 off2 cap2 w6 r1 r2 r3; clear r1 r2 r3))
        clear hmo hav hm2
        rw [ts0_same] at hnx
        go_wp2_with fail
        go_roundw
        case rel => (repeat apply Exists.intro); first | exact ⟨⟨hiN'.out, by go_num, rfl, rfl, hnx⟩, rfl⟩ | exact ⟨hiN'.out, by go_num, rfl, rfl, hnx, rfl⟩ | exact ⟨hiN'.out, by go_num, rfl, rfl, hnx⟩
        case measure => have := hiN'.out; simp [intOf]; omega
      · obtain rfl : N = i := by omega
        have hz : ¬ (N : Int) < (N : Int) := by omega
        have hL2 : Hid (∃ ts k, Sm N 0 ts k ∧ Mx w v u kb kd N N ts ts k k wr) := ⟨ts0, Tk.new N, Sm.start (by omega) (fun _ => True), hM.out⟩
        clear hM hi hi0 hz0 hz1 hz2 hi1 hy0 hy1 hy2
        go_wp2_with fail
        clear hz
        go_loopw [13] (fun s13 wr => ∃ i : Nat, i ≤ len ∧ s13 = .int .i64 i ∧ Hid (∃ ts k, Sm N i ts k ∧ Mx w v u kb kd N N ts ts k k wr)) (fun s13 _ => len - (intOf s13).toNat)
        case atStart => exact ⟨0, Nat.zero_le _, rfl, hL2⟩
        case round =>
          clear hL2
          obtain ⟨i, hi, rfl, hM⟩ := hrel
          by_cases hil : i < len
          · have hz : (i : Int) < (len : Int) := by omega
            obtain ⟨bb, off, rfl, hbw, hop⟩ : ∃ b off, a = some ⟨b, off, none⟩ ∧ b < w.heap.size ∧ ∀ i, i < len → ∃ x : Oc, x.fits ∧ OpC w b (off + i * 4) x := by
              rcases hops'.out with h0 | hx
              · omega
              · exact hx
            obtain ⟨⟨what, oa, n, t⟩, hf, hc⟩ := hop i hil
            obtain ⟨ts, k, hsm, hMx⟩ := hM.out
            have hB := hMx.b
            obtain ⟨k0, k1, k2, k3⟩ := hc
            dsimp only at k0 k1 k2 k3
            have hcell : ∀ {o : Nat} {v : Value}, w.cell? ⟨bb, o, none⟩ = some v → wr.cell? ⟨bb, o, none⟩ = some v := fun h => (hB.cell (p := ⟨bb, _, none⟩) hbw).trans h
            have x0 := hcell k0
            have x1 := hcell k1
            have x2 := hcell k2
            have x3 := hcell k3
            have hMo := Lib.hid (hMx.box ⟨what, oa, n, t⟩)
            dsimp only at hMo
            have hsm' := Lib.hid hsm
            have hfa : Hid ((Lit.int .i64 oa).wf = true) := hf.2.1
            have hil' := Lib.hid hil
            have hst : Hid (i + 1 ≤ 4398046511104) := by show _ ≤ _; omega
            clear k0 k1 k2 k3 hcell hop hM hMx hB hf hil hsm
            have hw1 : IntKind.i64.wrap ((i : Int) + 1) = (i : Int) + 1 := IntWalk.i64_in _ (by omega)
            go_upto_region 21 with fail
            generalize wr.heap.size = Bo at *
            generalize wr.alloc (.cells #[.int .i64 what, .int .i64 oa, .int .i64 n, .int .i64 t] 38) = W1 at *
            clear x0 x1 x2 x3
            have hbo : Hid (BoxO W1 Bo ⟨what, oa, n, t⟩) := by
              obtain ⟨_, _, _, _, _, _, _, _, h, _⟩ := hMo.out
              exact h
            have c0 := hbo.out.c0
            have c1 := hbo.out.c1
            dsimp only at c0 c1
            obtain ⟨hm1, hm2⟩ := tmod_bd oa (N : Int) (by omega)
            have hwm : IntKind.i64.wrap (oa.tmod (N : Int)) = oa.tmod (N : Int) := IntWalk.i64_in _ (by omega)
            have hne : ¬ N = 0 := by omega
            have hne2 : ¬ (N : Int) = 0 := by omega
            go_upto_if 75 with fail
            obtain ⟨x, hx, hxv⟩ : ∃ x : Nat, x < N ∧ Hid ((x : Int) = if oa.tmod (N : Int) < 0 then oa.tmod (N : Int) + N else oa.tmod (N : Int)) := by
              by_cases hneg : oa.tmod (N : Int) < 0
              · exact ⟨(oa.tmod (N : Int) + N).toNat, by omega, by show _ = _; rw [if_pos hneg]; omega⟩
              · exact ⟨(oa.tmod (N : Int)).toNat, by omega, by show _ = _; rw [if_neg hneg]; omega⟩
            go_cut [15] from 60 to 258 (fun s15 wx => s15 = .int .i64 (x : Int) ∧ wx = W1)
            case first =>
              clear c0 c1 hbo hMo
              have hxo := hxv.out
              by_cases hneg : oa.tmod (N : Int) < 0
              · rw [if_pos hneg] at hxo
                have hxo' := Lib.hid hxo
                have hw2 : IntKind.i64.wrap (oa.tmod (N : Int) + (N : Int)) = oa.tmod (N : Int) + (N : Int) := IntWalk.i64_in _ (by omega)
                clear hxo hxv
                go_wp2_with fail
                go_meet
                case rel => exact ⟨congrArg (Value.int IntKind.i64) hxo'.out.symm, rfl⟩
              · rw [if_neg hneg] at hxo
                have hxo' := Lib.hid hxo
                clear hxo hxv
                go_wp2_with fail
                go_meet
                case rel => exact ⟨congrArg (Value.int IntKind.i64) hxo'.out.symm, rfl⟩
            obtain ⟨rfl, hwc⟩ := hcut
            obtain rfl : W1 = wc := hwc.symm
            clear hxv hm1 hm2 hwm c1 hfa
            have hxz : (x : Int) < (N : Int) := by omega
            have hx' := Lib.hid hx
            clear hx hne hne2
            go_upto_block 4 with fail
            go_cut [15] from 60 to 258 (fun s15 wx => ∃ x' : Nat, s15 = .int .i64 (x' : Int) ∧ x' < N ∧ Hid (∃ ts k, Sm N (i + 1) ts k ∧ Mx w v u kb kd N N ts ts k k wx))
            case first =>
              have hbd := Lib.hid ((hsm'.out.ta x).ok (by have := hst.out; omega))
              by_cases hwh0 : what = 0
              · subst hwh0
                as_aux_lemma =>
                  obtain ⟨g, og, cap1, p, g2, og2, cap2, q, rfl, rfl, hc1, hc2, hcall⟩ := hMo.out.twoP hN2 hx'.out
                  obtain ⟨hcl, hcal⟩ := hcall W1.drew (Below.refl _ W1).drew
                  have hC := hcal 12 13 #[.pointer (some ⟨p, 0, none⟩), .int .i64 t] #[.pointer (some ⟨q, 0, none⟩), .int .i64 t] (.returned (.int .i64 (colI (ts x).c))) (.returned (.int .i64 (colI (ts x).c))) ((ts x).sent t) ((ts x).sent t) (fun S wA h => coSent_any h hbd.out t) (fun S wA h => rcSent_any h hbd.out t)
                  have hC' := Lib.hid hC
                  generalize (colI (ts x).c) = cc at hC'
                  have hrl : Hid (∀ wx, Mb w (.slice (some ⟨g, og, none⟩) N cap1) (.slice (some ⟨g2, og2, none⟩) N cap2) kb kd N (upd ts x ((ts x).sent t)) (upd ts x ((ts x).sent t)) k k Bo ⟨0, oa, n, t⟩ wx → ∃ ts k, Sm N (i + 1) ts k ∧ Mx w (.slice (some ⟨g, og, none⟩) N cap1) (.slice (some ⟨g2, og2, none⟩) N cap2) kb kd N N ts ts k k wx) := Lib.hid (fun wx h => ⟨_, k, hsm'.out.one ((hsm'.out.ta x).sent t), h.mx⟩)
                  clear hC hcal hcall hMo hsm' hbd c0 hbo
                  go_upto_region 33 with fail
                  refine wp_region_held_drew (S := Cl g og g2 og2 x p q Bo ⟨0, oa, n, t⟩) (by kernel_rfl) hcl (fun hHeld => ?_)
                  clear hHeld
                  refine wpAnyH_take (i := 0) (oi := { dst := some 126, op := Op.move (Operand.tmp 9), type := 31, pos := "law.go:52", after := #[], guard := none }) (v := ?vv0_1) rfl (by kernel_rfl) (by kernel_rfl) (by kernel_rfl) (fun _ _ _ h => h) (Or.inl ⟨by rfl, ?hy0_1⟩) hcl ?rest0_1
                  case hy0_1 =>
                    intro w hSw
                    go_simp
                    try with_reducible rfl
                  try simp only [Act.put, List.setIfInBounds_toArray, List.set_cons_zero, List.set_cons_succ]
                  refine wpAnyH_take (i := 1) (oi := { dst := some 127, op := Op.move (Operand.tmp 15), type := 3, pos := "law.go:52", after := #[], guard := none }) (v := ?vv1_2) rfl (by kernel_rfl) (by kernel_rfl) (by kernel_rfl) (fun _ _ _ h => h) (Or.inl ⟨by rfl, ?hy1_2⟩) hcl ?rest1_2
                  case hy1_2 =>
                    intro w hSw
                    go_simp
                    try with_reducible rfl
                  try simp only [Act.put, List.setIfInBounds_toArray, List.set_cons_zero, List.set_cons_succ]
                  refine wpAnyH_take (i := 2) (oi := { dst := some 128, op := Op.indexAddr 31 (Operand.tmp 126) (Operand.tmp 127), type := 0, pos := "law.go:52", after := #[{ on := 0, ground := Ground.data }, { on := 1, ground := Ground.data }], guard := none }) (v := ?vv2_3) rfl (by kernel_rfl) (by kernel_rfl) (by kernel_rfl) (fun _ _ _ h => h) (Or.inl ⟨by rfl, ?hy2_3⟩) hcl ?rest2_3
                  case hy2_3 =>
                    intro w hSw
                    go_simp
                    try with_reducible rfl
                  try simp only [Act.put, List.setIfInBounds_toArray, List.set_cons_zero, List.set_cons_succ]
                  refine wpAnyH_take (i := 3) (oi := { dst := some 129, op := Op.load 33 (Operand.tmp 128), type := 33, pos := "law.go:52", after := #[{ on := 2, ground := Ground.data }], guard := none }) (v := ?vv3_4) rfl (by kernel_rfl) (by kernel_rfl) (by kernel_rfl) (fun _ _ _ h => h) (Or.inl ⟨by rfl, ?hy3_4⟩) hcl ?rest3_4
                  case hy3_4 =>
                    intro w hSw
                    have c := hSw.1
                    go_simp
                    try with_reducible rfl
                  try simp only [Act.put, List.setIfInBounds_toArray, List.set_cons_zero, List.set_cons_succ]
                  refine wpAnyH_take (i := 4) (oi := { dst := some 130, op := Op.fieldAddr 38 (Operand.tmp 14) 3, type := 0, pos := "law.go:52", after := #[], guard := none }) (v := ?vv4_5) rfl (by kernel_rfl) (by kernel_rfl) (by kernel_rfl) (fun _ _ _ h => h) (Or.inl ⟨by rfl, ?hy4_5⟩) hcl ?rest4_5
                  case hy4_5 =>
                    intro w hSw
                    go_simp
                    try with_reducible rfl
                  try simp only [Act.put, List.setIfInBounds_toArray, List.set_cons_zero, List.set_cons_succ]
                  refine wpAnyH_take (i := 5) (oi := { dst := some 131, op := Op.load 2 (Operand.tmp 130), type := 2, pos := "law.go:52", after := #[{ on := 4, ground := Ground.data }], guard := none }) (v := ?vv5_6) rfl (by kernel_rfl) (by kernel_rfl) (by kernel_rfl) (fun _ _ _ h => h) (Or.inl ⟨by rfl, ?hy5_6⟩) hcl ?rest5_6
                  case hy5_6 =>
                    intro w hSw
                    have c := hSw.2.2.c3
                    go_simp
                    try with_reducible rfl
                  try simp only [Act.put, List.setIfInBounds_toArray, List.set_cons_zero, List.set_cons_succ]
                  refine wpAnyH_take (i := 7) (oi := { dst := some 133, op := Op.move (Operand.tmp 10), type := 32, pos := "law.go:52", after := #[], guard := none }) (v := ?vv7_7) rfl (by kernel_rfl) (by kernel_rfl) (by kernel_rfl) (fun _ _ _ h => h) (Or.inl ⟨by rfl, ?hy7_7⟩) hcl ?rest7_7
                  case hy7_7 =>
                    intro w hSw
                    go_simp
                    try with_reducible rfl
                  try simp only [Act.put, List.setIfInBounds_toArray, List.set_cons_zero, List.set_cons_succ]
                  refine wpAnyH_take (i := 8) (oi := { dst := some 134, op := Op.move (Operand.tmp 15), type := 3, pos := "law.go:52", after := #[], guard := none }) (v := ?vv8_8) rfl (by kernel_rfl) (by kernel_rfl) (by kernel_rfl) (fun _ _ _ h => h) (Or.inl ⟨by rfl, ?hy8_8⟩) hcl ?rest8_8
                  case hy8_8 =>
                    intro w hSw
                    go_simp
                    try with_reducible rfl
                  try simp only [Act.put, List.setIfInBounds_toArray, List.set_cons_zero, List.set_cons_succ]
                  refine wpAnyH_take (i := 9) (oi := { dst := some 135, op := Op.indexAddr 32 (Operand.tmp 133) (Operand.tmp 134), type := 0, pos := "law.go:52", after := #[{ on := 7, ground := Ground.data }, { on := 8, ground := Ground.data }], guard := none }) (v := ?vv9_9) rfl (by kernel_rfl) (by kernel_rfl) (by kernel_rfl) (fun _ _ _ h => h) (Or.inl ⟨by rfl, ?hy9_9⟩) hcl ?rest9_9
                  case hy9_9 =>
                    intro w hSw
                    go_simp
                    try with_reducible rfl
                  try simp only [Act.put, List.setIfInBounds_toArray, List.set_cons_zero, List.set_cons_succ]
                  refine wpAnyH_take (i := 10) (oi := { dst := some 136, op := Op.load 35 (Operand.tmp 135), type := 35, pos := "law.go:52", after := #[{ on := 9, ground := Ground.data }], guard := none }) (v := ?vv10_10) rfl (by kernel_rfl) (by kernel_rfl) (by kernel_rfl) (fun _ _ _ h => h) (Or.inl ⟨by rfl, ?hy10_10⟩) hcl ?rest10_10
                  case hy10_10 =>
                    intro w hSw
                    have c := hSw.2.1
                    go_simp
                    try with_reducible rfl
                  try simp only [Act.put, List.setIfInBounds_toArray, List.set_cons_zero, List.set_cons_succ]
                  refine wpAnyH_take (i := 11) (oi := { dst := some 137, op := Op.fieldAddr 38 (Operand.tmp 14) 3, type := 0, pos := "law.go:52", after := #[], guard := none }) (v := ?vv11_11) rfl (by kernel_rfl) (by kernel_rfl) (by kernel_rfl) (fun _ _ _ h => h) (Or.inl ⟨by rfl, ?hy11_11⟩) hcl ?rest11_11
                  case hy11_11 =>
                    intro w hSw
                    go_simp
                    try with_reducible rfl
                  try simp only [Act.put, List.setIfInBounds_toArray, List.set_cons_zero, List.set_cons_succ]
                  refine wpAnyH_take (i := 12) (oi := { dst := some 138, op := Op.load 2 (Operand.tmp 137), type := 2, pos := "law.go:52", after := #[{ on := 11, ground := Ground.data }], guard := none }) (v := ?vv12_12) rfl (by kernel_rfl) (by kernel_rfl) (by kernel_rfl) (fun _ _ _ h => h) (Or.inl ⟨by rfl, ?hy12_12⟩) hcl ?rest12_12
                  case hy12_12 =>
                    intro w hSw
                    have c := hSw.2.2.c3
                    go_simp
                    try with_reducible rfl
                  try simp only [Act.put, List.setIfInBounds_toArray, List.set_cons_zero, List.set_cons_succ]
                  refine wpAnyH_ready (rs := [6]) (by kernel_rfl) (by simp) ?_
                  refine AllReadyH.cons (o := { dst := some 132, op := Op.call { callee := Callee.value (Operand.func 12), args := #[Operand.tmp 129, Operand.tmp 131], argTypes := #[33, 2] }, type := 3, pos := "law.go:52", after := #[{ on := 3, ground := Ground.data }, { on := 5, ground := Ground.data }], guard := none }) rfl (fun K hK => ?_) AllReadyH.nil
                  go_simp
                  refine hC'.out.mono ?_
                  rintro e w3 ⟨rfl, hcl3, hD3⟩
                  refine hK.out _ _ hcl3.out (fun hHeld => ?_)
                  clear hHeld hK K
                  try simp only [Act.put, List.setIfInBounds_toArray, List.set_cons_zero, List.set_cons_succ]
                  refine wpAnyH_ready (rs := [13]) (by kernel_rfl) (by simp) ?_
                  refine AllReadyH.cons (o := { dst := some 139, op := Op.call { callee := Callee.value (Operand.func 13), args := #[Operand.tmp 136, Operand.tmp 138], argTypes := #[35, 2] }, type := 3, pos := "law.go:52", after := #[{ on := 10, ground := Ground.data }, { on := 12, ground := Ground.data }, { on := 6, ground := Ground.chain }], guard := none }) rfl (fun K hK => ?_) AllReadyH.nil
                  go_simp
                  refine hD3.out.mono ?_
                  rintro e w4 ⟨rfl, hcl4, hM4⟩
                  refine hK.out _ _ hcl4.out (fun hHeld => ?_)
                  clear hHeld hK K
                  try simp only [Act.put, List.setIfInBounds_toArray, List.set_cons_zero, List.set_cons_succ]
                  refine wpAnyH_take (i := 14) (oi := { dst := some 140, op := Op.binOp BinOp.neq 3 (Operand.tmp 132) (Operand.tmp 139) 3, type := 4, pos := "law.go:52", after := #[{ on := 6, ground := Ground.data }, { on := 13, ground := Ground.data }], guard := none }) (v := ?vv14_13) rfl (by kernel_rfl) (by kernel_rfl) (by kernel_rfl) (fun _ _ _ h => h) (Or.inl ⟨by rfl, ?hy14_13⟩) hcl4.out ?rest14_13
                  case hy14_13 =>
                    intro w hSw
                    go_simp
                    try with_reducible rfl
                  try simp only [Act.put, List.setIfInBounds_toArray, List.set_cons_zero, List.set_cons_succ]
                  refine wpAnyH_done (by kernel_rfl) ?_ _
                  have hrel2 := Lib.hid (hrl.out w4 hM4.out)
                  clear hcl hcl3 hcl4 hD3 hC' hM4 hrl
                  go_wp2_with fail
                  go_meet
                  case rel => exact ⟨x, rfl, hx'.out, hrel2⟩
              · by_cases hwh1 : what = 1
                · subst hwh1
                  as_aux_lemma =>
                    obtain ⟨g, og, cap1, p, g2, og2, cap2, q, rfl, rfl, hc1, hc2, hcall⟩ := hMo.out.twoP hN2 hx'.out
                    obtain ⟨hcl, hcal⟩ := hcall W1.drew (Below.refl _ W1).drew
                    have hC := hcal 14 15 #[.pointer (some ⟨p, 0, none⟩), .int .i64 n] #[.pointer (some ⟨q, 0, none⟩), .int .i64 n] (.returned (.int .i64 (gotC n))) (.returned (.int .i64 (gotC n))) (gotT (ts x) n) (gotT (ts x) n) (fun S wA h => coGot_any h hbd.out n) (fun S wA h => rcGot_any h hbd.out n)
                    have hC' := Lib.hid hC
                    generalize (gotC n) = cc at hC'
                    have hrl : Hid (∀ wx, Mb w (.slice (some ⟨g, og, none⟩) N cap1) (.slice (some ⟨g2, og2, none⟩) N cap2) kb kd N (upd ts x (gotT (ts x) n)) (upd ts x (gotT (ts x) n)) k k Bo ⟨1, oa, n, t⟩ wx → ∃ ts k, Sm N (i + 1) ts k ∧ Mx w (.slice (some ⟨g, og, none⟩) N cap1) (.slice (some ⟨g2, og2, none⟩) N cap2) kb kd N N ts ts k k wx) := Lib.hid (fun wx h => ⟨_, k, hsm'.out.one ((hsm'.out.ta x).got n), h.mx⟩)
                    clear hC hcal hcall hMo hsm' hbd c0 hbo
                    go_upto_region 36 with fail
                    refine wp_region_held_drew (S := Cl g og g2 og2 x p q Bo ⟨1, oa, n, t⟩) (by kernel_rfl) hcl (fun hHeld => ?_)
                    clear hHeld
                    refine wpAnyH_take (i := 0) (oi := { dst := some 143, op := Op.move (Operand.tmp 9), type := 31, pos := "law.go:56", after := #[], guard := none }) (v := ?vv0_14) rfl (by kernel_rfl) (by kernel_rfl) (by kernel_rfl) (fun _ _ _ h => h) (Or.inl ⟨by rfl, ?hy0_14⟩) hcl ?rest0_14
                    case hy0_14 =>
                      intro w hSw
                      go_simp
                      try with_reducible rfl
                    try simp only [Act.put, List.setIfInBounds_toArray, List.set_cons_zero, List.set_cons_succ]
                    refine wpAnyH_take (i := 1) (oi := { dst := some 144, op := Op.move (Operand.tmp 15), type := 3, pos := "law.go:56", after := #[], guard := none }) (v := ?vv1_15) rfl (by kernel_rfl) (by kernel_rfl) (by kernel_rfl) (fun _ _ _ h => h) (Or.inl ⟨by rfl, ?hy1_15⟩) hcl ?rest1_15
                    case hy1_15 =>
                      intro w hSw
                      go_simp
                      try with_reducible rfl
                    try simp only [Act.put, List.setIfInBounds_toArray, List.set_cons_zero, List.set_cons_succ]
                    refine wpAnyH_take (i := 2) (oi := { dst := some 145, op := Op.indexAddr 31 (Operand.tmp 143) (Operand.tmp 144), type := 0, pos := "law.go:56", after := #[{ on := 0, ground := Ground.data }, { on := 1, ground := Ground.data }], guard := none }) (v := ?vv2_16) rfl (by kernel_rfl) (by kernel_rfl) (by kernel_rfl) (fun _ _ _ h => h) (Or.inl ⟨by rfl, ?hy2_16⟩) hcl ?rest2_16
                    case hy2_16 =>
                      intro w hSw
                      go_simp
                      try with_reducible rfl
                    try simp only [Act.put, List.setIfInBounds_toArray, List.set_cons_zero, List.set_cons_succ]
                    refine wpAnyH_take (i := 3) (oi := { dst := some 146, op := Op.load 33 (Operand.tmp 145), type := 33, pos := "law.go:56", after := #[{ on := 2, ground := Ground.data }], guard := none }) (v := ?vv3_17) rfl (by kernel_rfl) (by kernel_rfl) (by kernel_rfl) (fun _ _ _ h => h) (Or.inl ⟨by rfl, ?hy3_17⟩) hcl ?rest3_17
                    case hy3_17 =>
                      intro w hSw
                      have c := hSw.1
                      go_simp
                      try with_reducible rfl
                    try simp only [Act.put, List.setIfInBounds_toArray, List.set_cons_zero, List.set_cons_succ]
                    refine wpAnyH_take (i := 4) (oi := { dst := some 147, op := Op.fieldAddr 38 (Operand.tmp 14) 2, type := 0, pos := "law.go:56", after := #[], guard := none }) (v := ?vv4_18) rfl (by kernel_rfl) (by kernel_rfl) (by kernel_rfl) (fun _ _ _ h => h) (Or.inl ⟨by rfl, ?hy4_18⟩) hcl ?rest4_18
                    case hy4_18 =>
                      intro w hSw
                      go_simp
                      try with_reducible rfl
                    try simp only [Act.put, List.setIfInBounds_toArray, List.set_cons_zero, List.set_cons_succ]
                    refine wpAnyH_take (i := 5) (oi := { dst := some 148, op := Op.load 3 (Operand.tmp 147), type := 3, pos := "law.go:56", after := #[{ on := 4, ground := Ground.data }], guard := none }) (v := ?vv5_19) rfl (by kernel_rfl) (by kernel_rfl) (by kernel_rfl) (fun _ _ _ h => h) (Or.inl ⟨by rfl, ?hy5_19⟩) hcl ?rest5_19
                    case hy5_19 =>
                      intro w hSw
                      have c := hSw.2.2.c2
                      go_simp
                      try with_reducible rfl
                    try simp only [Act.put, List.setIfInBounds_toArray, List.set_cons_zero, List.set_cons_succ]
                    refine wpAnyH_take (i := 7) (oi := { dst := some 150, op := Op.move (Operand.tmp 10), type := 32, pos := "law.go:56", after := #[], guard := none }) (v := ?vv7_20) rfl (by kernel_rfl) (by kernel_rfl) (by kernel_rfl) (fun _ _ _ h => h) (Or.inl ⟨by rfl, ?hy7_20⟩) hcl ?rest7_20
                    case hy7_20 =>
                      intro w hSw
                      go_simp
                      try with_reducible rfl
                    try simp only [Act.put, List.setIfInBounds_toArray, List.set_cons_zero, List.set_cons_succ]
                    refine wpAnyH_take (i := 8) (oi := { dst := some 151, op := Op.move (Operand.tmp 15), type := 3, pos := "law.go:56", after := #[], guard := none }) (v := ?vv8_21) rfl (by kernel_rfl) (by kernel_rfl) (by kernel_rfl) (fun _ _ _ h => h) (Or.inl ⟨by rfl, ?hy8_21⟩) hcl ?rest8_21
                    case hy8_21 =>
                      intro w hSw
                      go_simp
                      try with_reducible rfl
                    try simp only [Act.put, List.setIfInBounds_toArray, List.set_cons_zero, List.set_cons_succ]
                    refine wpAnyH_take (i := 9) (oi := { dst := some 152, op := Op.indexAddr 32 (Operand.tmp 150) (Operand.tmp 151), type := 0, pos := "law.go:56", after := #[{ on := 7, ground := Ground.data }, { on := 8, ground := Ground.data }], guard := none }) (v := ?vv9_22) rfl (by kernel_rfl) (by kernel_rfl) (by kernel_rfl) (fun _ _ _ h => h) (Or.inl ⟨by rfl, ?hy9_22⟩) hcl ?rest9_22
                    case hy9_22 =>
                      intro w hSw
                      go_simp
                      try with_reducible rfl
                    try simp only [Act.put, List.setIfInBounds_toArray, List.set_cons_zero, List.set_cons_succ]
                    refine wpAnyH_take (i := 10) (oi := { dst := some 153, op := Op.load 35 (Operand.tmp 152), type := 35, pos := "law.go:56", after := #[{ on := 9, ground := Ground.data }], guard := none }) (v := ?vv10_23) rfl (by kernel_rfl) (by kernel_rfl) (by kernel_rfl) (fun _ _ _ h => h) (Or.inl ⟨by rfl, ?hy10_23⟩) hcl ?rest10_23
                    case hy10_23 =>
                      intro w hSw
                      have c := hSw.2.1
                      go_simp
                      try with_reducible rfl
                    try simp only [Act.put, List.setIfInBounds_toArray, List.set_cons_zero, List.set_cons_succ]
                    refine wpAnyH_take (i := 11) (oi := { dst := some 154, op := Op.fieldAddr 38 (Operand.tmp 14) 2, type := 0, pos := "law.go:56", after := #[], guard := none }) (v := ?vv11_24) rfl (by kernel_rfl) (by kernel_rfl) (by kernel_rfl) (fun _ _ _ h => h) (Or.inl ⟨by rfl, ?hy11_24⟩) hcl ?rest11_24
                    case hy11_24 =>
                      intro w hSw
                      go_simp
                      try with_reducible rfl
                    try simp only [Act.put, List.setIfInBounds_toArray, List.set_cons_zero, List.set_cons_succ]
                    refine wpAnyH_take (i := 12) (oi := { dst := some 155, op := Op.load 3 (Operand.tmp 154), type := 3, pos := "law.go:56", after := #[{ on := 11, ground := Ground.data }], guard := none }) (v := ?vv12_25) rfl (by kernel_rfl) (by kernel_rfl) (by kernel_rfl) (fun _ _ _ h => h) (Or.inl ⟨by rfl, ?hy12_25⟩) hcl ?rest12_25
                    case hy12_25 =>
                      intro w hSw
                      have c := hSw.2.2.c2
                      go_simp
                      try with_reducible rfl
                    try simp only [Act.put, List.setIfInBounds_toArray, List.set_cons_zero, List.set_cons_succ]
                    refine wpAnyH_ready (rs := [6]) (by kernel_rfl) (by simp) ?_
                    refine AllReadyH.cons (o := { dst := some 149, op := Op.call { callee := Callee.value (Operand.func 14), args := #[Operand.tmp 146, Operand.tmp 148], argTypes := #[33, 3] }, type := 24, pos := "law.go:56", after := #[{ on := 3, ground := Ground.data }, { on := 5, ground := Ground.data }], guard := none }) rfl (fun K hK => ?_) AllReadyH.nil
                    go_simp
                    refine hC'.out.mono ?_
                    rintro e w3 ⟨rfl, hcl3, hD3⟩
                    refine hK.out _ _ hcl3.out (fun hHeld => ?_)
                    clear hHeld hK K
                    try simp only [Act.put, List.setIfInBounds_toArray, List.set_cons_zero, List.set_cons_succ]
                    refine wpAnyH_ready (rs := [13]) (by kernel_rfl) (by simp) ?_
                    refine AllReadyH.cons (o := { dst := some 156, op := Op.call { callee := Callee.value (Operand.func 15), args := #[Operand.tmp 153, Operand.tmp 155], argTypes := #[35, 3] }, type := 3, pos := "law.go:56", after := #[{ on := 10, ground := Ground.data }, { on := 12, ground := Ground.data }, { on := 6, ground := Ground.chain }], guard := none }) rfl (fun K hK => ?_) AllReadyH.nil
                    go_simp
                    refine hD3.out.mono ?_
                    rintro e w4 ⟨rfl, hcl4, hM4⟩
                    refine hK.out _ _ hcl4.out (fun hHeld => ?_)
                    clear hHeld hK K
                    try simp only [Act.put, List.setIfInBounds_toArray, List.set_cons_zero, List.set_cons_succ]
                    refine wpAnyH_take (i := 14) (oi := { dst := some 157, op := Op.binOp BinOp.neq 3 (Operand.tmp 149) (Operand.tmp 156) 3, type := 4, pos := "law.go:56", after := #[{ on := 6, ground := Ground.data }, { on := 13, ground := Ground.data }], guard := none }) (v := ?vv14_26) rfl (by kernel_rfl) (by kernel_rfl) (by kernel_rfl) (fun _ _ _ h => h) (Or.inl ⟨by rfl, ?hy14_26⟩) hcl4.out ?rest14_26
                    case hy14_26 =>
                      intro w hSw
                      go_simp
                      try with_reducible rfl
                    try simp only [Act.put, List.setIfInBounds_toArray, List.set_cons_zero, List.set_cons_succ]
                    refine wpAnyH_done (by kernel_rfl) ?_ _
                    have hrel2 := Lib.hid (hrl.out w4 hM4.out)
                    clear hcl hcl3 hcl4 hD3 hC' hM4 hrl
                    go_wp2_with fail
                    go_meet
                    case rel => exact ⟨x, rfl, hx'.out, hrel2⟩
                · by_cases hwh2 : what = 2
                  · subst hwh2
                    as_aux_lemma =>
                      obtain ⟨g, og, cap1, p, g2, og2, cap2, q, rfl, rfl, hc1, hc2, hcall⟩ := hMo.out.twoD hN2 hx'.out
                      obtain ⟨hcl, hcal⟩ := hcall W1 (Below.refl _ W1)
                      have hC := hcal 17 16 #[.pointer (some ⟨p, 0, none⟩)] #[.pointer (some ⟨q, 0, none⟩)] (.returned (.int .i64 0)) (.returned (.tuple #[])) ((ts x).flip) ((ts x).flip) (fun S wA h => coFlip_any h) (fun S wA h => rcFlip_any h)
                      have hC' := Lib.hid hC
                      have hrl : Hid (∀ wx, Mb w (.slice (some ⟨g, og, none⟩) N cap1) (.slice (some ⟨g2, og2, none⟩) N cap2) kb kd N (upd ts x ((ts x).flip)) (upd ts x ((ts x).flip)) k k Bo ⟨2, oa, n, t⟩ wx → ∃ ts k, Sm N (i + 1) ts k ∧ Mx w (.slice (some ⟨g, og, none⟩) N cap1) (.slice (some ⟨g2, og2, none⟩) N cap2) kb kd N N ts ts k k wx) := Lib.hid (fun wx h => ⟨_, k, hsm'.out.one ((hsm'.out.ta x).flip), h.mx⟩)
                      obtain ⟨y0, y1, y2⟩ := hcl
                      clear hC hcal hcall hMo hsm' hbd hbo y2
                      go_upto_region 40 with (go_at_call 16; refine hC'.out.mono ?_; rintro e w3 ⟨rfl, hcl3, hD3⟩)
                      obtain ⟨z0, z1, z2⟩ := hcl3.out
                      clear c0 y0 y1 z1 z2 hcl3 hC'
                      go_wp2_with (go_at_call 17; refine hD3.out.mono ?_; rintro e w4 ⟨rfl, hcl4, hM4⟩; have hrel2 := Lib.hid (hrl.out w4 hM4.out); clear hM4 hcl4)
                      go_meet
                      case rel => exact ⟨x, rfl, hx'.out, hrel2⟩
                  · skip
                    as_aux_lemma =>
                      obtain ⟨g, og, cap1, p, g2, og2, cap2, q, rfl, rfl, hc1, hc2, hvis⟩ := hMo.out.visit hN2 hsm'.out.at' (hsm'.out.ok hN2) ((hsm'.out.ta _).small (by have := hst.out; omega))
                      have hsv := hsm'.out.vis (by have := hst.out; omega) t
                      have hat := hsm'.out.at'
                      dsimp only at hvis
                      generalize k.vis (ts k.at') t = V at hvis hsv
                      obtain ⟨kk, tt, tv, ov⟩ := V
                      dsimp only at hvis hsv
                      clear hMo hsm' hbd hbo
                      generalize k.at' = xa at hvis hsv hat
                      have hsv' := Lib.hid hsv
                      have hat' := Lib.hid hat
                      have hvis' := Lib.hid hvis
                      have hxz : (xa : Int) < (N : Int) := by omega
                      obtain ⟨-, -, hat1, -⟩ := hvis W1 (Below.refl _ _)
                      clear hvis hsv hat
                      go_upto_region 26 with (go_at_call 18; refine hat1.mono ?_; rintro e W2 ⟨rfl, hb2⟩)
                      have hv2 := Lib.hid (hvis'.out W2 hb2)
                      have hv2d := Lib.hid (hvis'.out W2.drew hb2.drew)
                      have hcd := hv2.out.2.1
                      clear hv2 hat1 hb2 hvis' c0
                      go_upto_region 28 with fail
                      clear hcd
                      have hcl2 := hv2d.out.1
                      have hvc := Lib.hid hv2d.out.2.2.2
                      clear hv2d
                      refine wp_region_Z (Cl g og g2 og2 xa p q Bo ⟨what, oa, n, t⟩) 7 (by kernel_rfl) ?_
                      refine wpAnyZ_take (i := 0) (oi := { dst := some 90, op := Op.move (Operand.tmp 5), type := 23, pos := "law.go:69", after := #[], guard := none }) (v := ?zv0_1) rfl (by kernel_rfl) (by kernel_rfl) (by kernel_rfl) (fun _ _ _ h => h) (by decide) (Or.inl ⟨by rfl, ?zy0_1⟩) (fun _ => hcl2) ?zrest0_1
                      case zy0_1 =>
                        intro w _
                        go_simp
                        try with_reducible rfl
                      try simp only [Act.put, List.setIfInBounds_toArray, List.set_cons_zero, List.set_cons_succ]
                      refine wpAnyZ_take (i := 1) (oi := { dst := some 91, op := Op.move (Operand.tmp 9), type := 31, pos := "law.go:69", after := #[], guard := none }) (v := ?zv1_2) rfl (by kernel_rfl) (by kernel_rfl) (by kernel_rfl) (fun _ _ _ h => h) (by decide) (Or.inl ⟨by rfl, ?zy1_2⟩) (fun _ => hcl2) ?zrest1_2
                      case zy1_2 =>
                        intro w _
                        go_simp
                        try with_reducible rfl
                      try simp only [Act.put, List.setIfInBounds_toArray, List.set_cons_zero, List.set_cons_succ]
                      refine wpAnyZ_take (i := 2) (oi := { dst := some 92, op := Op.move (Operand.tmp 15), type := 3, pos := "law.go:69", after := #[], guard := none }) (v := ?zv2_3) rfl (by kernel_rfl) (by kernel_rfl) (by kernel_rfl) (fun _ _ _ h => h) (by decide) (Or.inl ⟨by rfl, ?zy2_3⟩) (fun _ => hcl2) ?zrest2_3
                      case zy2_3 =>
                        intro w _
                        go_simp
                        try with_reducible rfl
                      try simp only [Act.put, List.setIfInBounds_toArray, List.set_cons_zero, List.set_cons_succ]
                      refine wpAnyZ_take (i := 3) (oi := { dst := some 93, op := Op.indexAddr 31 (Operand.tmp 91) (Operand.tmp 92), type := 0, pos := "law.go:69", after := #[{ on := 1, ground := Ground.data }, { on := 2, ground := Ground.data }], guard := none }) (v := ?zv3_4) rfl (by kernel_rfl) (by kernel_rfl) (by kernel_rfl) (fun _ _ _ h => h) (by decide) (Or.inl ⟨by rfl, ?zy3_4⟩) (fun _ => hcl2) ?zrest3_4
                      case zy3_4 =>
                        intro w _
                        go_simp
                        try with_reducible rfl
                      try simp only [Act.put, List.setIfInBounds_toArray, List.set_cons_zero, List.set_cons_succ]
                      refine wpAnyZ_load (i := 4) (oi := { dst := some 94, op := Op.load 33 (Operand.tmp 93), type := 33, pos := "law.go:69", after := #[{ on := 3, ground := Ground.data }], guard := none }) (v := ?zv4_5) rfl (by kernel_rfl) (by kernel_rfl) (by kernel_rfl) (fun _ _ _ h => h) (by decide) (by kernel_rfl) (by kernel_rfl) (Or.inl ⟨by rfl, ?zy4_5⟩) hcl2 ?zrest4_5
                      case zy4_5 =>
                        intro w hSw
                        have c := hSw.1
                        go_simp
                        try with_reducible rfl
                      try simp only [Act.put, List.setIfInBounds_toArray, List.set_cons_zero, List.set_cons_succ]
                      refine wpAnyZ_take (i := 5) (oi := { dst := some 95, op := Op.fieldAddr 38 (Operand.tmp 14) 3, type := 0, pos := "law.go:69", after := #[], guard := none }) (v := ?zv5_6) rfl (by kernel_rfl) (by kernel_rfl) (by kernel_rfl) (fun _ _ _ h => h) (by decide) (Or.inl ⟨by rfl, ?zy5_6⟩) (fun _ => hcl2) ?zrest5_6
                      case zy5_6 =>
                        intro w _
                        go_simp
                        try with_reducible rfl
                      try simp only [Act.put, List.setIfInBounds_toArray, List.set_cons_zero, List.set_cons_succ]
                      refine wpAnyZ_load (i := 6) (oi := { dst := some 96, op := Op.load 2 (Operand.tmp 95), type := 2, pos := "law.go:69", after := #[{ on := 5, ground := Ground.data }], guard := none }) (v := ?zv6_7) rfl (by kernel_rfl) (by kernel_rfl) (by kernel_rfl) (fun _ _ _ h => h) (by decide) (by kernel_rfl) (by kernel_rfl) (Or.inl ⟨by rfl, ?zy6_7⟩) hcl2 ?zrest6_7
                      case zy6_7 =>
                        intro w hSw
                        have c := hSw.2.2.c3
                        go_simp
                        try with_reducible rfl
                      try simp only [Act.put, List.setIfInBounds_toArray, List.set_cons_zero, List.set_cons_succ]
                      refine wpAnyZ_ready (rs := [7]) (by kernel_rfl) (by simp) ?_
                      refine AllReadyZ.cons (o := { dst := some 97, op := Op.call { callee := Callee.value (Operand.func 19), args := #[Operand.tmp 90, Operand.tmp 94, Operand.tmp 96], argTypes := #[23, 33, 2] }, type := 46, pos := "law.go:69", after := #[{ on := 0, ground := Ground.data }, { on := 4, ground := Ground.data }, { on := 6, ground := Ground.data }], guard := none }) rfl (fun K hK => ?_) AllReadyZ.nil
                      go_simp
                      refine hvc.out.mono ?_
                      rintro e W3 ⟨rfl, hD⟩
                      refine hK.out _ _ (fun h => absurd h (by decide)) ?_
                      clear hK K
                      try simp only [Act.put, List.setIfInBounds_toArray, List.set_cons_zero, List.set_cons_succ]
                      refine wpAnyZ_take (i := 8) (oi := { dst := some 89, op := Op.move (Operand.tmp 97), type := 46, pos := "law.go:69", after := #[{ on := 7, ground := Ground.data }], guard := none }) (v := ?zv8_8) rfl (by kernel_rfl) (by kernel_rfl) (by kernel_rfl) (fun _ _ _ h => h) (by decide) (Or.inl ⟨by rfl, ?zy8_8⟩) (fun h => absurd h (by decide)) ?zrest8_8
                      case zy8_8 =>
                        intro w _
                        go_simp
                        try with_reducible rfl
                      try simp only [Act.put, List.setIfInBounds_toArray, List.set_cons_zero, List.set_cons_succ]
                      refine wpAnyZ_take (i := 9) (oi := { dst := some 98, op := Op.extract (Operand.tmp 89) 0, type := 2, pos := "law.go:69", after := #[{ on := 8, ground := Ground.data }], guard := none }) (v := ?zv9_9) rfl (by kernel_rfl) (by kernel_rfl) (by kernel_rfl) (fun _ _ _ h => h) (by decide) (Or.inl ⟨by rfl, ?zy9_9⟩) (fun h => absurd h (by decide)) ?zrest9_9
                      case zy9_9 =>
                        intro w _
                        go_simp
                        try with_reducible rfl
                      try simp only [Act.put, List.setIfInBounds_toArray, List.set_cons_zero, List.set_cons_succ]
                      refine wpAnyZ_take (i := 10) (oi := { dst := some 99, op := Op.extract (Operand.tmp 89) 1, type := 4, pos := "law.go:69", after := #[{ on := 8, ground := Ground.data }, { on := 12, ground := Ground.gcOnly Departure.lateStores }], guard := none }) (v := ?zv10_10) rfl (by kernel_rfl) (by kernel_rfl) (by kernel_rfl) (fun _ _ _ h => h) (by decide) (Or.inl ⟨by rfl, ?zy10_10⟩) (fun h => absurd h (by decide)) ?zrest10_10
                      case zy10_10 =>
                        intro w _
                        go_simp
                        try with_reducible rfl
                      try simp only [Act.put, List.setIfInBounds_toArray, List.set_cons_zero, List.set_cons_succ]
                      refine wpAnyZ_take (i := 11) (oi := { dst := some 100, op := Op.extract (Operand.tmp 89) 2, type := 24, pos := "law.go:69", after := #[{ on := 8, ground := Ground.data }, { on := 13, ground := Ground.gcOnly Departure.lateStores }], guard := none }) (v := ?zv11_11) rfl (by kernel_rfl) (by kernel_rfl) (by kernel_rfl) (fun _ _ _ h => h) (by decide) (Or.inl ⟨by rfl, ?zy11_11⟩) (fun h => absurd h (by decide)) ?zrest11_11
                      case zy11_11 =>
                        intro w _
                        go_simp
                        try with_reducible rfl
                      try simp only [Act.put, List.setIfInBounds_toArray, List.set_cons_zero, List.set_cons_succ]
                      refine wpAnyZ_take (i := 12) (oi := { dst := some 16, op := Op.assign (Operand.tmp 98), type := 2, pos := "law.go:69", after := #[{ on := 9, ground := Ground.data }, { on := 7, ground := Ground.chain }, { on := 0, ground := Ground.phase }, { on := 1, ground := Ground.phase }, { on := 2, ground := Ground.phase }, { on := 3, ground := Ground.phase }, { on := 4, ground := Ground.phase }, { on := 5, ground := Ground.phase }, { on := 6, ground := Ground.phase }, { on := 7, ground := Ground.phase }, { on := 8, ground := Ground.phase }, { on := 9, ground := Ground.phase }, { on := 10, ground := Ground.textOnly Departure.lateStores }, { on := 11, ground := Ground.textOnly Departure.lateStores }], guard := none }) (v := ?zv12_12) rfl (by kernel_rfl) (by kernel_rfl) (by kernel_rfl) (fun _ _ _ h => h) (by decide) (Or.inl ⟨by rfl, ?zy12_12⟩) (fun h => absurd h (by decide)) ?zrest12_12
                      case zy12_12 =>
                        intro w _
                        go_simp
                        try with_reducible rfl
                      try simp only [Act.put, List.setIfInBounds_toArray, List.set_cons_zero, List.set_cons_succ]
                      refine wpAnyZ_take (i := 13) (oi := { dst := some 17, op := Op.assign (Operand.tmp 99), type := 4, pos := "law.go:69", after := #[{ on := 10, ground := Ground.data }, { on := 12, ground := Ground.chain }, { on := 0, ground := Ground.phase }, { on := 1, ground := Ground.phase }, { on := 2, ground := Ground.phase }, { on := 3, ground := Ground.phase }, { on := 4, ground := Ground.phase }, { on := 5, ground := Ground.phase }, { on := 6, ground := Ground.phase }, { on := 7, ground := Ground.phase }, { on := 8, ground := Ground.phase }, { on := 9, ground := Ground.phase }, { on := 10, ground := Ground.phase }, { on := 11, ground := Ground.textOnly Departure.lateStores }, { on := 12, ground := Ground.phase }], guard := none }) (v := ?zv13_13) rfl (by kernel_rfl) (by kernel_rfl) (by kernel_rfl) (fun _ _ _ h => h) (by decide) (Or.inl ⟨by rfl, ?zy13_13⟩) (fun h => absurd h (by decide)) ?zrest13_13
                      case zy13_13 =>
                        intro w _
                        go_simp
                        try with_reducible rfl
                      try simp only [Act.put, List.setIfInBounds_toArray, List.set_cons_zero, List.set_cons_succ]
                      refine wpAnyZ_take (i := 14) (oi := { dst := some 18, op := Op.assign (Operand.tmp 100), type := 24, pos := "law.go:69", after := #[{ on := 11, ground := Ground.data }, { on := 13, ground := Ground.chain }, { on := 0, ground := Ground.phase }, { on := 1, ground := Ground.phase }, { on := 2, ground := Ground.phase }, { on := 3, ground := Ground.phase }, { on := 4, ground := Ground.phase }, { on := 5, ground := Ground.phase }, { on := 6, ground := Ground.phase }, { on := 7, ground := Ground.phase }, { on := 8, ground := Ground.phase }, { on := 9, ground := Ground.phase }, { on := 10, ground := Ground.phase }, { on := 11, ground := Ground.phase }, { on := 12, ground := Ground.phase }, { on := 13, ground := Ground.phase }], guard := none }) (v := ?zv14_14) rfl (by kernel_rfl) (by kernel_rfl) (by kernel_rfl) (fun _ _ _ h => h) (by decide) (Or.inl ⟨by rfl, ?zy14_14⟩) (fun h => absurd h (by decide)) ?zrest14_14
                      case zy14_14 =>
                        intro w _
                        go_simp
                        try with_reducible rfl
                      try simp only [Act.put, List.setIfInBounds_toArray, List.set_cons_zero, List.set_cons_succ]
                      refine wpAnyZ_done (by kernel_rfl) ?_ _
                      clear hcl2 hvc
                      have hD3 := Lib.hid (hD.out W3.drew (Below.refl _ W3).drew)
                      have hcl3 := hD3.out.1
                      have hvd := Lib.hid hD3.out.2
                      clear hD hD3
                      go_upto_region 29 with fail
                      refine wp_region_Z (Cl g og g2 og2 xa p q Bo ⟨what, oa, n, t⟩) 7 (by kernel_rfl) ?_
                      refine wpAnyZ_take (i := 0) (oi := { dst := some 102, op := Op.move (Operand.tmp 7), type := 27, pos := "law.go:70", after := #[], guard := none }) (v := ?zv0_15) rfl (by kernel_rfl) (by kernel_rfl) (by kernel_rfl) (fun _ _ _ h => h) (by decide) (Or.inl ⟨by rfl, ?zy0_15⟩) (fun _ => hcl3) ?zrest0_15
                      case zy0_15 =>
                        intro w _
                        go_simp
                        try with_reducible rfl
                      try simp only [Act.put, List.setIfInBounds_toArray, List.set_cons_zero, List.set_cons_succ]
                      refine wpAnyZ_take (i := 1) (oi := { dst := some 103, op := Op.move (Operand.tmp 10), type := 32, pos := "law.go:70", after := #[], guard := none }) (v := ?zv1_16) rfl (by kernel_rfl) (by kernel_rfl) (by kernel_rfl) (fun _ _ _ h => h) (by decide) (Or.inl ⟨by rfl, ?zy1_16⟩) (fun _ => hcl3) ?zrest1_16
                      case zy1_16 =>
                        intro w _
                        go_simp
                        try with_reducible rfl
                      try simp only [Act.put, List.setIfInBounds_toArray, List.set_cons_zero, List.set_cons_succ]
                      refine wpAnyZ_take (i := 2) (oi := { dst := some 104, op := Op.move (Operand.tmp 15), type := 3, pos := "law.go:70", after := #[], guard := none }) (v := ?zv2_17) rfl (by kernel_rfl) (by kernel_rfl) (by kernel_rfl) (fun _ _ _ h => h) (by decide) (Or.inl ⟨by rfl, ?zy2_17⟩) (fun _ => hcl3) ?zrest2_17
                      case zy2_17 =>
                        intro w _
                        go_simp
                        try with_reducible rfl
                      try simp only [Act.put, List.setIfInBounds_toArray, List.set_cons_zero, List.set_cons_succ]
                      refine wpAnyZ_take (i := 3) (oi := { dst := some 105, op := Op.indexAddr 32 (Operand.tmp 103) (Operand.tmp 104), type := 0, pos := "law.go:70", after := #[{ on := 1, ground := Ground.data }, { on := 2, ground := Ground.data }], guard := none }) (v := ?zv3_18) rfl (by kernel_rfl) (by kernel_rfl) (by kernel_rfl) (fun _ _ _ h => h) (by decide) (Or.inl ⟨by rfl, ?zy3_18⟩) (fun _ => hcl3) ?zrest3_18
                      case zy3_18 =>
                        intro w _
                        go_simp
                        try with_reducible rfl
                      try simp only [Act.put, List.setIfInBounds_toArray, List.set_cons_zero, List.set_cons_succ]
                      refine wpAnyZ_load (i := 4) (oi := { dst := some 106, op := Op.load 35 (Operand.tmp 105), type := 35, pos := "law.go:70", after := #[{ on := 3, ground := Ground.data }], guard := none }) (v := ?zv4_19) rfl (by kernel_rfl) (by kernel_rfl) (by kernel_rfl) (fun _ _ _ h => h) (by decide) (by kernel_rfl) (by kernel_rfl) (Or.inl ⟨by rfl, ?zy4_19⟩) hcl3 ?zrest4_19
                      case zy4_19 =>
                        intro w hSw
                        have c := hSw.2.1
                        go_simp
                        try with_reducible rfl
                      try simp only [Act.put, List.setIfInBounds_toArray, List.set_cons_zero, List.set_cons_succ]
                      refine wpAnyZ_take (i := 5) (oi := { dst := some 107, op := Op.fieldAddr 38 (Operand.tmp 14) 3, type := 0, pos := "law.go:70", after := #[], guard := none }) (v := ?zv5_20) rfl (by kernel_rfl) (by kernel_rfl) (by kernel_rfl) (fun _ _ _ h => h) (by decide) (Or.inl ⟨by rfl, ?zy5_20⟩) (fun _ => hcl3) ?zrest5_20
                      case zy5_20 =>
                        intro w _
                        go_simp
                        try with_reducible rfl
                      try simp only [Act.put, List.setIfInBounds_toArray, List.set_cons_zero, List.set_cons_succ]
                      refine wpAnyZ_load (i := 6) (oi := { dst := some 108, op := Op.load 2 (Operand.tmp 107), type := 2, pos := "law.go:70", after := #[{ on := 5, ground := Ground.data }], guard := none }) (v := ?zv6_21) rfl (by kernel_rfl) (by kernel_rfl) (by kernel_rfl) (fun _ _ _ h => h) (by decide) (by kernel_rfl) (by kernel_rfl) (Or.inl ⟨by rfl, ?zy6_21⟩) hcl3 ?zrest6_21
                      case zy6_21 =>
                        intro w hSw
                        have c := hSw.2.2.c3
                        go_simp
                        try with_reducible rfl
                      try simp only [Act.put, List.setIfInBounds_toArray, List.set_cons_zero, List.set_cons_succ]
                      refine wpAnyZ_ready (rs := [7]) (by kernel_rfl) (by simp) ?_
                      refine AllReadyZ.cons (o := { dst := some 109, op := Op.call { callee := Callee.value (Operand.func 20), args := #[Operand.tmp 102, Operand.tmp 106, Operand.tmp 108], argTypes := #[27, 35, 2] }, type := 48, pos := "law.go:70", after := #[{ on := 0, ground := Ground.data }, { on := 4, ground := Ground.data }, { on := 6, ground := Ground.data }], guard := none }) rfl (fun K hK => ?_) AllReadyZ.nil
                      go_simp
                      refine hvd.out.mono ?_
                      rintro e W4 ⟨rfl, hM4⟩
                      refine hK.out _ _ (fun h => absurd h (by decide)) ?_
                      clear hK K
                      try simp only [Act.put, List.setIfInBounds_toArray, List.set_cons_zero, List.set_cons_succ]
                      refine wpAnyZ_take (i := 8) (oi := { dst := some 101, op := Op.move (Operand.tmp 109), type := 48, pos := "law.go:70", after := #[{ on := 7, ground := Ground.data }], guard := none }) (v := ?zv8_22) rfl (by kernel_rfl) (by kernel_rfl) (by kernel_rfl) (fun _ _ _ h => h) (by decide) (Or.inl ⟨by rfl, ?zy8_22⟩) (fun h => absurd h (by decide)) ?zrest8_22
                      case zy8_22 =>
                        intro w _
                        go_simp
                        try with_reducible rfl
                      try simp only [Act.put, List.setIfInBounds_toArray, List.set_cons_zero, List.set_cons_succ]
                      refine wpAnyZ_take (i := 9) (oi := { dst := some 110, op := Op.extract (Operand.tmp 101) 0, type := 2, pos := "law.go:70", after := #[{ on := 8, ground := Ground.data }], guard := none }) (v := ?zv9_23) rfl (by kernel_rfl) (by kernel_rfl) (by kernel_rfl) (fun _ _ _ h => h) (by decide) (Or.inl ⟨by rfl, ?zy9_23⟩) (fun h => absurd h (by decide)) ?zrest9_23
                      case zy9_23 =>
                        intro w _
                        go_simp
                        try with_reducible rfl
                      try simp only [Act.put, List.setIfInBounds_toArray, List.set_cons_zero, List.set_cons_succ]
                      refine wpAnyZ_take (i := 10) (oi := { dst := some 111, op := Op.extract (Operand.tmp 101) 1, type := 4, pos := "law.go:70", after := #[{ on := 8, ground := Ground.data }, { on := 11, ground := Ground.gcOnly Departure.lateStores }], guard := none }) (v := ?zv10_24) rfl (by kernel_rfl) (by kernel_rfl) (by kernel_rfl) (fun _ _ _ h => h) (by decide) (Or.inl ⟨by rfl, ?zy10_24⟩) (fun h => absurd h (by decide)) ?zrest10_24
                      case zy10_24 =>
                        intro w _
                        go_simp
                        try with_reducible rfl
                      try simp only [Act.put, List.setIfInBounds_toArray, List.set_cons_zero, List.set_cons_succ]
                      refine wpAnyZ_take (i := 11) (oi := { dst := some 19, op := Op.assign (Operand.tmp 110), type := 2, pos := "law.go:70", after := #[{ on := 9, ground := Ground.data }, { on := 7, ground := Ground.chain }, { on := 0, ground := Ground.phase }, { on := 1, ground := Ground.phase }, { on := 2, ground := Ground.phase }, { on := 3, ground := Ground.phase }, { on := 4, ground := Ground.phase }, { on := 5, ground := Ground.phase }, { on := 6, ground := Ground.phase }, { on := 7, ground := Ground.phase }, { on := 8, ground := Ground.phase }, { on := 9, ground := Ground.phase }, { on := 10, ground := Ground.textOnly Departure.lateStores }], guard := none }) (v := ?zv11_25) rfl (by kernel_rfl) (by kernel_rfl) (by kernel_rfl) (fun _ _ _ h => h) (by decide) (Or.inl ⟨by rfl, ?zy11_25⟩) (fun h => absurd h (by decide)) ?zrest11_25
                      case zy11_25 =>
                        intro w _
                        go_simp
                        try with_reducible rfl
                      try simp only [Act.put, List.setIfInBounds_toArray, List.set_cons_zero, List.set_cons_succ]
                      refine wpAnyZ_take (i := 12) (oi := { dst := some 20, op := Op.assign (Operand.tmp 111), type := 4, pos := "law.go:70", after := #[{ on := 10, ground := Ground.data }, { on := 11, ground := Ground.chain }, { on := 0, ground := Ground.phase }, { on := 1, ground := Ground.phase }, { on := 2, ground := Ground.phase }, { on := 3, ground := Ground.phase }, { on := 4, ground := Ground.phase }, { on := 5, ground := Ground.phase }, { on := 6, ground := Ground.phase }, { on := 7, ground := Ground.phase }, { on := 8, ground := Ground.phase }, { on := 9, ground := Ground.phase }, { on := 10, ground := Ground.phase }, { on := 11, ground := Ground.phase }], guard := none }) (v := ?zv12_26) rfl (by kernel_rfl) (by kernel_rfl) (by kernel_rfl) (fun _ _ _ h => h) (by decide) (Or.inl ⟨by rfl, ?zy12_26⟩) (fun h => absurd h (by decide)) ?zrest12_26
                      case zy12_26 =>
                        intro w _
                        go_simp
                        try with_reducible rfl
                      try simp only [Act.put, List.setIfInBounds_toArray, List.set_cons_zero, List.set_cons_succ]
                      refine wpAnyZ_done (by kernel_rfl) ?_ _
                      have hrel2 : Hid (∃ ts k, Sm N (i + 1) ts k ∧ Mx w (.slice (some ⟨g, og, none⟩) N cap1) (.slice (some ⟨g2, og2, none⟩) N cap2) kb kd N N ts ts k k W4) := ⟨_, kk, hsv'.out, hM4.out⟩
                      clear hcl3 hvd hM4 hsv'
                      go_wp2_with fail
                      go_meet
                      case rel => exact ⟨xa, rfl, hat'.out, hrel2⟩
            case rest =>
              as_aux_lemma =>
                obtain ⟨x', rfl, hx', hM2⟩ := hcut
                obtain ⟨ts2, k2, hsm2, hMx2⟩ := hM2.out
                obtain ⟨g, og, cap1, p, g2, og2, cap2, q, gd, c, m0, m1, rd, ka, kc, rfl, rfl, hc1, hc2, hlt, hlk⟩ := hMx2.looks hN2 hx'
                have hnx : Hid (∀ W, Below wc.heap.size wc W → Hid (∃ ts k, Sm N (i + 1) ts k ∧ Mx w (.slice (some ⟨g, og, none⟩) N cap1) (.slice (some ⟨g2, og2, none⟩) N cap2) kb kd N N ts ts k k W)) := Lib.hid (fun W hb => ⟨ts2, k2, hsm2, hMx2.below hb⟩)
                have hlk' := Lib.hid hlk
                clear hM2 hsm2 hMx2 hMo hsm' hbo c0 hlk
                unfold Look at hlk'
                have y1 : ∀ z, (wide wc z).cell? ⟨g, og + x', none⟩ = some (.pointer (some ⟨p, 0, none⟩)) := fun z => (hlk'.out _ (wide_below wc z)).1.1
                have y2 : ∀ z, (wide wc z).cell? ⟨g2, og2 + x', none⟩ = some (.pointer (some ⟨q, 0, none⟩)) := fun z => (hlk'.out _ (wide_below wc z)).1.2
                have y3 : ∀ z, (wide wc z).cell? ⟨q, 0, none⟩ = some (.int .i64 c) := fun z => (hlk'.out _ (wide_below wc z)).2.1.1
                have y4 : ∀ z, (wide wc z).cell? ⟨q, 1, none⟩ = some (.slice (some ⟨gd, 0, none⟩) 2 2) := fun z => (hlk'.out _ (wide_below wc z)).2.1.2.1
                have y5 : ∀ z, (wide wc z).cell? ⟨q, 2, none⟩ = some (.int .i64 rd) := fun z => (hlk'.out _ (wide_below wc z)).2.1.2.2.1
                have y6 : ∀ z, (wide wc z).cell? ⟨gd, 0, none⟩ = some (.int .i64 m0) := fun z => (hlk'.out _ (wide_below wc z)).2.1.2.2.2.1
                have y7 : ∀ z, (wide wc z).cell? ⟨gd, 1, none⟩ = some (.int .i64 m1) := fun z => (hlk'.out _ (wide_below wc z)).2.1.2.2.2.2
                have y8 : ∀ z, (wide wc z).cell? ⟨kd, 1, none⟩ = some (.int .i64 ka) := fun z => (hlk'.out _ (wide_below wc z)).2.2.1.1
                have y9 : ∀ z, (wide wc z).cell? ⟨kd, 2, none⟩ = some (.bool kc) := fun z => (hlk'.out _ (wide_below wc z)).2.2.1.2
                have hcol := fun z => (hlk'.out _ (wide_below wc z)).2.2.2.1
                have hn0 := fun z => (hlk'.out _ (wide_below wc z)).2.2.2.2.1.1
                have hn1 := fun z => (hlk'.out _ (wide_below wc z)).2.2.2.2.1.2.1
                have hn2 := fun z => (hlk'.out _ (wide_below wc z)).2.2.2.2.1.2.2
                have hrd := fun z => (hlk'.out _ (wide_below wc z)).2.2.2.2.2.1
                have hka := fun z => (hlk'.out _ (wide_below wc z)).2.2.2.2.2.2.1
                have hkc := fun z => (hlk'.out _ (wide_below wc z)).2.2.2.2.2.2.2
                have hxz : (x' : Int) < (N : Int) := by omega
                clear hlt hlk'
                go_upto_region 42 with fail
                refine wp_region_wide (by kernel_rfl) lex42 ?_
                try simp only [List.append_eq, List.cons_append, List.nil_append]
                iterate 88 (go_big_quiet_step (with_reducible first | exact Calls.wide_of (hcol _) | exact Calls.wide_of (hn0 _) | exact Calls.wide_of (hn1 _) | exact Calls.wide_of (hn2 _) | exact Calls.wide_of (hrd _) | exact Calls.wide_of (hka _) | exact Calls.wide_of (hkc _)))
                refine wpQuiet_nil ?_
                refine wide_all fun W2 hb2 => ?_
                have hrel3 := hnx.out W2 hb2
                clear y1 y2 y3 y4 y5 y6 y7 y8 y9 hcol hn0 hn1 hn2 hrd hka hkc hnx hb2
                go_wp2_with fail
                go_roundw
                case rel => (repeat apply Exists.intro); first | exact ⟨⟨hil'.out, by go_num, hrel3⟩, rfl⟩ | exact ⟨hil'.out, by go_num, hrel3, rfl⟩ | exact ⟨hil'.out, by go_num, hrel3⟩
                case measure => have := hil'.out; simp [intOf]; omega
          · obtain rfl : i = len := by omega
            have hz : ¬ (i : Int) < (i : Int) := by omega
            have haw : Hid (Calls Try.prog 9 #[] wr fun e w' => e = .returned (.bool true) ∧ Below w.heap.size w w') := by
              obtain ⟨ts, k, _, hMx⟩ := hM.out
              exact (awake_any12 wr).mono fun e w' hh => ⟨hh.1, hMx.b.trans (hh.2.mono hMx.b.size)⟩
            clear hM
            go_wp2_with (go_at_call 9; refine haw.out.mono ?_; rintro e w' ⟨rfl, hb5⟩; have hb5' := Lib.hid hb5; clear hb5)
            go_ret
            exact ⟨rfl, hb5'.out⟩
  · have ht1 := Lib.hid (coToken_no n hn w)
    have ht2 : Hid (∀ w1, _) := Lib.hid (fun w1 => rcToken_no n hn w1)
    clear hn
    go_enter Try.func3, Try.ntmps3
    go_upto_region 2 with (go_at_call 7; refine ht1.out.mono ?_; rintro e w1 ⟨rfl, hM1⟩; have hM1' := Lib.hid hM1; clear hM1)
    have ht3 := Lib.hid (ht2.out w1)
    go_upto_region 3 with (go_at_call 8; refine ht3.out.mono ?_; rintro e w2 ⟨rfl, hM2⟩; have hM2' := Lib.hid hM2; clear hM2)
    have haw : Hid (Calls Try.prog 9 #[] w2 fun e w' => e = .returned (.bool true) ∧ Below w.heap.size w w') := by
      have hb := hM1'.out.trans (hM2'.out.mono hM1'.out.size)
      exact (awake_any12 w2).mono fun e w' hh => ⟨hh.1, hb.trans (hh.2.mono hb.size)⟩
    clear ht1 ht2 ht3 hM1' hM2'
    go_wp2_with (go_at_call 9; refine haw.out.mono ?_; rintro e w' ⟨rfl, hb5⟩; have hb5' := Lib.hid hb5; clear hb5)
    go_ret
    exact ⟨rfl, hb5'.out⟩
end Go.Proofs.Ytobfjfmaicmkdaa
