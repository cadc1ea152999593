
/-
  The law of two colours: never too late.
-/
import Derived.Test.YtobfjfmaicmkdaaWG
import Derived.Test.YtobfjfmaicmkdaaGZ
import Derived.Deep.CutBlock
namespace Go.Proofs.Ytobfjfmaicmkdaa
open Go.ChangeShapes Go.WideShapes Go.ChangeAt Go.Shelf Go.RowKit Go.Lib Go.Sort Go.Deep Col
set_option linter.unusedVariables false
set_option linter.unusedSimpArgs false
set_option maxRecDepth 4000

theorem infoPT3 : (Try.prog.info? 33).map (fun i => (i.zero, i.size, i.bytes)) = some (some (.pointer none), 1, 8) := by kernel_rfl
theorem infoSl3 : (Try.prog.info? 58).map (fun i => (i.zero, i.size, i.bytes)) = some (some (.slice none 0 0), 1, 24) := by kernel_rfl
theorem infoSp3 : (Try.prog.info? 59).map (fun i => (i.zero, i.size, i.bytes)) = some (some (.slice none 0 0), 1, 24) := by kernel_rfl
theorem infoI3 : (Try.prog.info? 2).map (fun i => (i.zero, i.size, i.bytes)) = some (some (.int .i64 0), 1, 8) := by kernel_rfl
theorem infoP3 : (Try.prog.info? 61).map (fun i => (i.zero, i.size, i.bytes)) = some (some (.agg #[.int .i64 0, .int .i64 0]), 2, 16) := by kernel_rfl
theorem tmod_bd3 (n k : Int) (hk : 0 < k) : -k < n.tmod k ∧ n.tmod k < k := by
  have h1 := Int.emod_nonneg n (show k ≠ 0 by omega)
  have h2 := Int.emod_lt_of_pos n hk
  have h := Int.tmod_eq_emod (a := n) (b := k)
  rw [h]
  split <;> omega
def ts3 : Nat → Ta := fun _ => Ta.new
theorem ts3_same (n : Nat) : upd ts3 n Ta.new = ts3 := by
  funext j
  by_cases e : j = n
  · subst e; rw [upd_same]; rfl
  · rw [upd_ne _ _ e]
theorem cell_blk {w w' : World} {b o : Nat} (h : w'.heap[b]? = w.heap[b]?) : w'.cell? ⟨b, o, none⟩ = w.cell? ⟨b, o, none⟩ := by simp [World.cell?, h]
theorem news_of {w : World} {g : Nat} {cs : List Value} {T : TypeId} (h : w.heap[g]? = some (.cells cs.toArray T (0, 0))) (j : Nat) (u : Value) (hj : cs[j]? = some u) : w.cell? ((⟨g, 0, none⟩ : Addr).add j) = some u := by
  rw [Addr.add_lit, Nat.zero_add, cell_of_row w g j _ T (0, 0) h]
  simpa using hj
theorem lit_parc (a b : Int) (w : World) : (Instr.buildSlice 59 1 #[(0, .agg #[.int .i64 a, .int .i64 b])]).run Try.prog w = .ok (.slice (some ⟨w.heap.size, 0, none⟩) 1 1) (w.alloc (.cells #[.int .i64 a, .int .i64 b] 61)) := by kernel_rfl
section
variable {P : Program} {ops : Array Oper} {E : Prop} {o : Oper} {a : Act} {w w2 : World} {K : Act → World → Prop} {Q : Exit → Act → World → Prop}
theorem step_buildSlice (hgd : o.guard = none) (t : TypeId) (n : Nat) (parts : Array (Nat × Operand)) (ho : o.op = .buildSlice t n parts) (vals : Array (Nat × Value)) (hv : parts.map (fun (i, x) => (i, a.eval x)) = vals) {u : Value}
    (hb : (Instr.buildSlice t n vals).run P w = .ok u w2) (h : K (a.put o.dst u) w2) : if Region.wanted o (yielded ops a.tmps) = true then Oper.wp P o a w K Q else E := by
  have hw : Region.wanted o (yielded ops a.tmps) = true := by simp [Region.wanted, hgd]
  rw [if_pos hw]
  unfold Oper.wp execOp
  simp only [ho, hv]
  simp [hb, Result.andThen]
  exact h
end
theorem run_cutH {hg off n cap : Nat} (h : 0 < n) (hc : n ≤ cap) (W : World) : (Instr.slice 58 (.slice (some ⟨hg, off, none⟩) n cap) (some (.int .i64 1)) none none).run Try.prog W = .ok (cutV 1 (.slice (some ⟨hg, off, none⟩) n cap)) W := by
  obtain ⟨l0, hl0, hl1, hl2, hl3⟩ := info_parts infoI3
  have h1 : (1 : Int) ≤ (n : Int) := by omega
  simp [Instr.slice, Instr.sliceBounds, Instr.sliceBound, go_sem, run_underlying Try.underlying58, sizeOf, typeInfo, hl0, hl2, h1, cutV, Addr.add]
  split <;> rfl
theorem run_cutM {hg off n cap : Nat} (h : 0 < n) (hc : n ≤ cap) (W : World) : (Instr.slice 59 (.slice (some ⟨hg, off, none⟩) n cap) (some (.int .i64 1)) none none).run Try.prog W = .ok (cutV 2 (.slice (some ⟨hg, off, none⟩) n cap)) W := by
  obtain ⟨l0, hl0, hl1, hl2, hl3⟩ := info_parts infoP3
  have h1 : (1 : Int) ≤ (n : Int) := by omega
  simp [Instr.slice, Instr.sliceBounds, Instr.sliceBound, go_sem, run_underlying Try.underlying59, sizeOf, typeInfo, hl0, hl2, h1, cutV, Addr.add]
  split <;> rfl
set_option maxHeartbeats 32000000 in
set_option maxRecDepth 100000 in
theorem lawColourSafe {w : World} (n8 : Nat) (hn8 : n8 < 256) {a1 : Option Addr} {len1 cap1 : Nat} (hs1 : Nums .u8 w a1 len1 cap1) {a2 : Option Addr} {len2 cap2 : Nat} (hs2 : Ops w a2 len2 cap2) : Calls Try.prog 4 #[.int .u8 n8, .slice a1 len1 cap1, .slice a2 len2 cap2] w fun e w' => e = .returned (.bool true) ∧ Below w.heap.size w w' := by
  have mixed := mixed
  obtain ⟨h1c, h1m, hst⟩ := hs1
  obtain ⟨h2c, h2m, hop⟩ := hs2
  have hmx1 : len1 ≤ 9223372036854775807 ∧ cap1 ≤ 9223372036854775807 := by unfold maxLen at h1m; omega
  have hmx2 : len2 ≤ 9223372036854775807 ∧ cap2 ≤ 9223372036854775807 := by unfold maxLen at h2m; omega
  obtain ⟨hm1, hm1c⟩ := hmx1
  obtain ⟨hm2, hm2c⟩ := hmx2
  have hst' := Lib.hid hst
  have hop' := Lib.hid hop
  clear hst hop h1c h1m h2c h2m
  obtain ⟨i0, hi0, hz0, hz1, hz2⟩ := info_parts infoPT3
  obtain ⟨j0, hj0, hy0, hy1, hy2⟩ := info_parts infoSl3
  obtain ⟨k0, hk0, hx0, hx1, hx2⟩ := info_parts infoSp3
  obtain ⟨r, hr, hr6⟩ : ∃ r : Nat, (n8 : Int).tmod 6 = (r : Int) ∧ r < 6 := ⟨n8 % 6, by rw [Int.tmod_eq_emod_of_nonneg (by omega)]; omega, by omega⟩
  obtain ⟨N, hNr⟩ : ∃ N : Nat, Hid (N = r + 1) := ⟨r + 1, rfl⟩
  have hN6 : N ≤ 6 := by have := hNr.out; omega
  have hN0 : 0 < N := by have := hNr.out; omega
  have hw0 : IntKind.u8.wrap (r : Int) = (r : Int) := by have : r = 0 ∨ r = 1 ∨ r = 2 ∨ r = 3 ∨ r = 4 ∨ r = 5 := by omega
                                                         rcases this with rfl | rfl | rfl | rfl | rfl | rfl <;> rfl
  have hw2 : IntKind.i64.wrap (r : Int) = (r : Int) := IntWalk.i64_in _ (by omega)
  have hw3 : IntKind.i64.wrap (1 + (r : Int)) = (N : Int) := by rw [IntWalk.i64_in _ (by omega)]; have := hNr.out; omega
  have htk := Lib.hid (coToken_yes (N : Int) ⟨by omega, by omega⟩ w)
  rw [Int.toNat_natCast] at htk
  clear hn8
  go_enter Try.func4, Try.ntmps4
  go_upto_region 2 with fail
  clear hr hw0 hw2 hw3 hr6
  go_upto_region 3 with (go_at_call 7; refine htk.out.mono ?_; rintro e w1 ⟨kb, X, rfl, hM⟩)
  have hL0 : Hid (Lw w (.slice none 0 0) kb 0 ts3 (Tk.new N) w1) := Lw.start hM.out.1 hM.out.2.1 hM.out.2.2 _
  clear hM htk
  go_wp2_with fail
  go_loopw [10, 11] (fun s10 s11 wr => ∃ (i : Nat) (v : Value), i ≤ N ∧ s11 = .int .i64 i ∧ s10 = v ∧ Hid (Lw w v kb i ts3 (Tk.new N) wr)) (fun _ s11 _ => N - (intOf s11).toNat)
  case atStart => exact ⟨0, _, Nat.zero_le _, rfl, rfl, hL0⟩
  case round =>
    obtain ⟨i, v, hi, rfl, hv, hM⟩ := hrel
    obtain rfl := hv.symm
    clear hL0
    by_cases hiN : i < N
    · have hz : (i : Int) < (N : Int) := by omega
      have hiN' := Lib.hid hiN
      clear hiN
      obtain ⟨σ, pa, q1, q2, q3⟩ := hM.out
      have hmo : Hid (∀ p S w2, Hid (TaAt w2 p S Ta.new ∧ (∀ j, S j → wr.heap.size ≤ j) ∧ Below wr.heap.size wr w2) → RowAt (w2.alloc (.cells #[.pointer (some ⟨p, 0, none⟩)] 33)) 33 1 v i (ptrs pa i) ∧ ∀ g off cap w4, Hid (RowIn w4 33 1 g off (i + 1) cap (ptrs pa i ++ [Value.pointer (some ⟨p, 0, none⟩)])) → Hid (KeptOff (fun j => v.ownBlock = some j) (w2.alloc (.cells #[.pointer (some ⟨p, 0, none⟩)] 33)) w4) →
          Hid (v.ownBlock = some g ∨ (w2.alloc (.cells #[.pointer (some ⟨p, 0, none⟩)] 33)).heap.size ≤ g) → Hid (Lw w (.slice (some ⟨g, off, none⟩) (i + 1) cap) kb (i + 1) ts3 (Tk.new N) w4)) := Lib.hid (fun p S w2 h => by
        have hm := Lw.more q1 q2 q3 h.out.1 h.out.2.1 h.out.2.2
        rw [ts3_same] at hm
        exact ⟨hm.1, fun g off cap w4 x1 x2 x3 => hm.2 g off cap w4 x1.out x2.out x3.out⟩)
      clear q1 q2 q3 hM
      have hw1 : IntKind.i64.wrap ((i : Int) + 1) = (i : Int) + 1 := IntWalk.i64_in _ (by omega)
      go_upto_region 8 with (first
        | (go_at_call 10; refine (coNew_any wr).mono ?_; rintro e w2 ⟨p, S, rfl, hN⟩; have hm := hmo.out p S w2 hN; have hav := Lib.hid hm.1; have hm2 := Lib.hid hm.2; clear hm hN)
        | (at_builtin; refine wpList_append_row rfl (.tmp 46) (.tmp 48) 31 rfl hav.out i0 _ 8 Try.underlying31 hi0 hz0 hz1 hz2 rfl (by omega) rfl ⟨w2.heap.size, 0, none⟩ 1 [.pointer (some ⟨p, 0, none⟩)] rfl rfl (cell_one_new _ _ _) (by simp [Value.oneCell']) (by unfold maxLen; omega) (by omega) ?_; intro g off cap w4 r1 r2 r3; have hnx := Lib.hid (hm2.out g off cap w4 r1 r2 r3); clear r1 r2 r3))
      clear hmo hav hm2
      go_wp2_with fail
      go_roundw
      case rel => (repeat apply Exists.intro); first | exact ⟨⟨hiN'.out, by go_num, rfl, hnx.out⟩, rfl⟩ | exact ⟨hiN'.out, by go_num, rfl, hnx.out, rfl⟩ | exact ⟨hiN'.out, by go_num, rfl, hnx.out⟩
      case measure => have := hiN'.out; simp [intOf]; omega
    · obtain rfl : N = i := by omega
      have hz : ¬ (N : Int) < (N : Int) := by omega
      obtain ⟨σ, pa, q1, q2, q3⟩ := hM.out
      have hmk : Hid (∀ w2, wr.grownBy w2 none → w2.ownsRow wr.heap.size 58 1 (.slice (some ⟨wr.heap.size, 0, none⟩) N N) N (madeCells (Value.slice none 0 0).cells (N * 1)).toList → Hid (∀ w3, w2.grownBy w3 none → w3.ownsRow w2.heap.size 59 1 (.slice (some ⟨w2.heap.size, 0, none⟩) N N) N (madeCells (Value.slice none 0 0).cells (N * 1)).toList → Hid (Sf0 w v wr.heap.size w2.heap.size kb N pa 0 w3))) := Lib.hid (fun w2 g2 o2 => Lib.hid (fun w3 g3 o3 => by
        rw [made_vals] at o2 o3
        have b2 : Below wr.heap.size wr w2 := (KeptOff.of_grown g2).below (fun k _ e => by cases e) (Nat.le_refl _)
        have b3 : Below w2.heap.size w2 w3 := (KeptOff.of_grown g3).below (fun k _ e => by cases e) (Nat.le_refl _)
        obtain ⟨σ', hS⟩ := Sf.start q1 q2 rfl q3 b2 (.of_own o2) b3 (.of_own o3)
        exact ⟨σ', _, _, fun _ => [], hS, ⟨fun j _ z hz => (by simp at hz), fun j _ => Nat.zero_le _⟩⟩))
      clear hM hi hi0 hz0 hz1 hz2 q1 q2 q3
      go_upto_region 14 with (at_make; refine wpList_make_full _ rfl _ _ 56 rfl wr.heap.size 58 j0 _ 1 Try.underlying56 hj0 hy0 hy1 .i64 .i64 _ _ N rfl rfl rfl rfl (by rw [hy2]; omega) (by unfold maxLen; omega) (Nat.le_refl _) ?_; intro w2 ho hg; have hR1 := hmk.out w2 hg ho; clear ho hg)
      clear hmk hj0 hy0 hy1 hy2
      go_upto_region 15 with (at_make; refine wpList_make_full _ rfl _ _ 57 rfl w2.heap.size 59 k0 _ 1 Try.underlying57 hk0 hx0 hx1 .i64 .i64 _ _ N rfl rfl rfl rfl (by rw [hx2]; omega) (by unfold maxLen; omega) (Nat.le_refl _) ?_; intro w3 ho hg; have hR2 := hR1.out w3 hg ho; clear ho hg)
      clear hR1 hk0 hx0 hx1 hx2 hz
      generalize wr.heap.size = gh at *
      generalize w2.heap.size = gm at *
      go_upto_block 2 with fail
      go_cut [15] from 54 to 81 (fun s15 wx => Hid (SfI w v gh gm kb N pa 0 0 wx))
      case first =>
        go_wp2_with fail
        go_loopw [15] (fun s15 wr => ∃ i : Nat, i ≤ len1 ∧ i ≤ 50 ∧ s15 = .int .i64 i ∧ Hid (Sf0 w v gh gm kb N pa i wr)) (fun s15 _ => len1 - (intOf s15).toNat)
        case atStart => exact ⟨0, Nat.zero_le _, Nat.zero_le _, rfl, hR2⟩
        case round =>
          clear hR2
          obtain ⟨i, hil, hi50, rfl, hM⟩ := hrel
          by_cases hgo : i < len1 ∧ i < 50
          · obtain ⟨hgo1, hgo2⟩ := hgo
            have hz : (i : Int) < (len1 : Int) := by omega
            have hz2 : (i : Int) < 50 := by omega
            obtain ⟨x, hx, hxm⟩ : ∃ x : Nat, x < N ∧ (i : Int).tmod (N : Int) = (x : Int) := ⟨i % N, Nat.mod_lt _ hN0, (Int.ofNat_tmod i N).symm⟩
            obtain ⟨sb, so, rfl, hsb, hstz⟩ : ∃ b off, a1 = some ⟨b, off, none⟩ ∧ b < w.heap.size ∧ ∀ i, i < len1 → ∃ z : Int, (Lit.int .u8 z).wf = true ∧ w.cell? ⟨b, off + i, none⟩ = some (.int .u8 z) := by
              rcases hst'.out with h0 | hx
              · omega
              · exact hx
            obtain ⟨z, hzw, hzc⟩ := hstz i hgo1
            have hz8 := wf_u8n hzw
            obtain ⟨u, n, l, hni, hlk⟩ := hM.out.look hN6 hx
            have hlk' := Lib.hid hlk
            have hzc' := Lib.hid hzc
            have hxz : (x : Int) < (N : Int) := by omega
            have hNz : ¬ N = 0 := by omega
            have hNz2 : ¬ (N : Int) = 0 := by omega
            have hwx : IntKind.i64.wrap (x : Int) = (x : Int) := IntWalk.i64_in _ (by omega)
            have hwz : IntKind.i64.wrap z = z := IntWalk.i64_in _ (by omega)
            have hw1 : IntKind.i64.wrap ((i : Int) + 1) = (i : Int) + 1 := IntWalk.i64_in _ (by omega)
            have hzb : Hid (0 ≤ z ∧ z ≤ 255) := hz8
            have hgo' := Lib.hid (And.intro hgo1 hgo2)
            have hni' : Hid (n + 1 ≤ 51) := by show _ ≤ _; omega
            obtain ⟨l0, hl0, hl1, hl2, hl3⟩ := info_parts infoI3
            clear hM hlk hstz hzw hz8 hzc hgo1 hgo2 hni
            go_upto_region 18 with fail
            refine wp_region_Z (fun W => W.cell? ⟨gh, x, none⟩ = some u ∧ W.cell? ⟨sb, so + i, none⟩ = some (.int .u8 z)) 18 (by kernel_rfl) ?_
            have hb0 : Below wr.heap.size wr wr.drew := (Below.refl _ _).drew
            generalize wr.drew = W0 at *
            have hla := Lib.hid (hlk'.out W0 hb0)
            have hb1 : Below wr.heap.size wr (W0.alloc (.cells #[.int .i64 z] 2)) := hb0.alloc hb0.size _
            have hlb := Lib.hid (hlk'.out _ hb1)
            have hS0 : W0.cell? ⟨gh, x, none⟩ = some u ∧ W0.cell? ⟨sb, so + i, none⟩ = some (.int .u8 z) := ⟨hla.out.1.1, (cell_blk (hla.out.1.2 sb hsb)).trans hzc'.out⟩
            have hS1 : (W0.alloc (.cells #[.int .i64 z] 2)).cell? ⟨gh, x, none⟩ = some u ∧ (W0.alloc (.cells #[.int .i64 z] 2)).cell? ⟨sb, so + i, none⟩ = some (.int .u8 z) := ⟨hlb.out.1.1, (cell_blk (hlb.out.1.2 sb hsb)).trans hzc'.out⟩
            refine wpAnyZ_take (i := 0) (oi := { dst := some 64, op := Op.move (Operand.tmp 13), type := 56, pos := "law.go:106", after := #[], guard := none }) (v := ?zv0_1) rfl (by kernel_rfl) (by kernel_rfl) (by kernel_rfl) (fun _ _ _ h => h) (by decide) (Or.inl ⟨by rfl, ?zy0_1⟩) (fun _ => hS0) ?zrest0_1
            case zy0_1 =>
              intro w _
              go_simp
              try with_reducible rfl
            try simp only [Act.put, List.setIfInBounds_toArray, List.set_cons_zero, List.set_cons_succ]
            refine wpAnyZ_take (i := 1) (oi := { dst := some 65, op := Op.move (Operand.tmp 15), type := 3, pos := "law.go:106", after := #[], guard := none }) (v := ?zv1_2) rfl (by kernel_rfl) (by kernel_rfl) (by kernel_rfl) (fun _ _ _ h => h) (by decide) (Or.inl ⟨by rfl, ?zy1_2⟩) (fun _ => hS0) ?zrest1_2
            case zy1_2 =>
              intro w _
              go_simp
              try with_reducible rfl
            try simp only [Act.put, List.setIfInBounds_toArray, List.set_cons_zero, List.set_cons_succ]
            refine wpAnyZ_take (i := 2) (oi := { dst := some 66, op := Op.move (Operand.tmp 7), type := 3, pos := "law.go:106", after := #[], guard := none }) (v := ?zv2_3) rfl (by kernel_rfl) (by kernel_rfl) (by kernel_rfl) (fun _ _ _ h => h) (by decide) (Or.inl ⟨by rfl, ?zy2_3⟩) (fun _ => hS0) ?zrest2_3
            case zy2_3 =>
              intro w _
              go_simp
              try with_reducible rfl
            try simp only [Act.put, List.setIfInBounds_toArray, List.set_cons_zero, List.set_cons_succ]
            refine wpAnyZ_take (i := 3) (oi := { dst := some 67, op := Op.binOp BinOp.rem 3 (Operand.tmp 65) (Operand.tmp 66) 3, type := 3, pos := "law.go:106", after := #[{ on := 1, ground := Ground.data }, { on := 2, ground := Ground.data }], guard := none }) (v := ?zv3_4) rfl (by kernel_rfl) (by kernel_rfl) (by kernel_rfl) (fun _ _ _ h => h) (by decide) (Or.inl ⟨by rfl, ?zy3_4⟩) (fun _ => hS0) ?zrest3_4
            case zy3_4 =>
              intro w _
              go_simp
              try with_reducible rfl
            try simp only [Act.put, List.setIfInBounds_toArray, List.set_cons_zero, List.set_cons_succ]
            refine wpAnyZ_take (i := 4) (oi := { dst := some 68, op := Op.move (Operand.tmp 13), type := 56, pos := "law.go:106", after := #[], guard := none }) (v := ?zv4_5) rfl (by kernel_rfl) (by kernel_rfl) (by kernel_rfl) (fun _ _ _ h => h) (by decide) (Or.inl ⟨by rfl, ?zy4_5⟩) (fun _ => hS0) ?zrest4_5
            case zy4_5 =>
              intro w _
              go_simp
              try with_reducible rfl
            try simp only [Act.put, List.setIfInBounds_toArray, List.set_cons_zero, List.set_cons_succ]
            refine wpAnyZ_take (i := 5) (oi := { dst := some 69, op := Op.move (Operand.tmp 15), type := 3, pos := "law.go:106", after := #[], guard := none }) (v := ?zv5_6) rfl (by kernel_rfl) (by kernel_rfl) (by kernel_rfl) (fun _ _ _ h => h) (by decide) (Or.inl ⟨by rfl, ?zy5_6⟩) (fun _ => hS0) ?zrest5_6
            case zy5_6 =>
              intro w _
              go_simp
              try with_reducible rfl
            try simp only [Act.put, List.setIfInBounds_toArray, List.set_cons_zero, List.set_cons_succ]
            refine wpAnyZ_take (i := 6) (oi := { dst := some 70, op := Op.move (Operand.tmp 7), type := 3, pos := "law.go:106", after := #[], guard := none }) (v := ?zv6_7) rfl (by kernel_rfl) (by kernel_rfl) (by kernel_rfl) (fun _ _ _ h => h) (by decide) (Or.inl ⟨by rfl, ?zy6_7⟩) (fun _ => hS0) ?zrest6_7
            case zy6_7 =>
              intro w _
              go_simp
              try with_reducible rfl
            try simp only [Act.put, List.setIfInBounds_toArray, List.set_cons_zero, List.set_cons_succ]
            refine wpAnyZ_take (i := 7) (oi := { dst := some 71, op := Op.binOp BinOp.rem 3 (Operand.tmp 69) (Operand.tmp 70) 3, type := 3, pos := "law.go:106", after := #[{ on := 5, ground := Ground.data }, { on := 6, ground := Ground.data }], guard := none }) (v := ?zv7_8) rfl (by kernel_rfl) (by kernel_rfl) (by kernel_rfl) (fun _ _ _ h => h) (by decide) (Or.inl ⟨by rfl, ?zy7_8⟩) (fun _ => hS0) ?zrest7_8
            case zy7_8 =>
              intro w _
              go_simp
              try with_reducible rfl
            try simp only [Act.put, List.setIfInBounds_toArray, List.set_cons_zero, List.set_cons_succ]
            refine wpAnyZ_take (i := 8) (oi := { dst := some 72, op := Op.indexAddr 56 (Operand.tmp 68) (Operand.tmp 71), type := 0, pos := "law.go:106", after := #[{ on := 4, ground := Ground.data }, { on := 7, ground := Ground.data }], guard := none }) (v := ?zv8_9) rfl (by kernel_rfl) (by kernel_rfl) (by kernel_rfl) (fun _ _ _ h => h) (by decide) (Or.inl ⟨by rfl, ?zy8_9⟩) (fun _ => hS0) ?zrest8_9
            case zy8_9 =>
              intro w _
              go_simp
              try with_reducible rfl
            try simp only [Act.put, List.setIfInBounds_toArray, List.set_cons_zero, List.set_cons_succ]
            refine wpAnyZ_load (i := 9) (oi := { dst := some 73, op := Op.load 58 (Operand.tmp 72), type := 58, pos := "law.go:106", after := #[{ on := 8, ground := Ground.data }], guard := none }) (v := ?zv9_10) rfl (by kernel_rfl) (by kernel_rfl) (by kernel_rfl) (fun _ _ _ h => h) (by decide) (by kernel_rfl) (by kernel_rfl) (Or.inl ⟨by rfl, ?zy9_10⟩) hS0 ?zrest9_10
            case zy9_10 =>
              intro w hSw
              have c := hSw.1
              go_simp
              try with_reducible rfl
            try simp only [Act.put, List.setIfInBounds_toArray, List.set_cons_zero, List.set_cons_succ]
            refine wpAnyZ_take (i := 10) (oi := { dst := some 74, op := Op.move (Operand.tmp 1), type := 55, pos := "law.go:106", after := #[], guard := none }) (v := ?zv10_11) rfl (by kernel_rfl) (by kernel_rfl) (by kernel_rfl) (fun _ _ _ h => h) (by decide) (Or.inl ⟨by rfl, ?zy10_11⟩) (fun _ => hS0) ?zrest10_11
            case zy10_11 =>
              intro w _
              go_simp
              try with_reducible rfl
            try simp only [Act.put, List.setIfInBounds_toArray, List.set_cons_zero, List.set_cons_succ]
            refine wpAnyZ_take (i := 11) (oi := { dst := some 75, op := Op.move (Operand.tmp 15), type := 3, pos := "law.go:106", after := #[], guard := none }) (v := ?zv11_12) rfl (by kernel_rfl) (by kernel_rfl) (by kernel_rfl) (fun _ _ _ h => h) (by decide) (Or.inl ⟨by rfl, ?zy11_12⟩) (fun _ => hS0) ?zrest11_12
            case zy11_12 =>
              intro w _
              go_simp
              try with_reducible rfl
            try simp only [Act.put, List.setIfInBounds_toArray, List.set_cons_zero, List.set_cons_succ]
            refine wpAnyZ_take (i := 12) (oi := { dst := some 76, op := Op.indexAddr 55 (Operand.tmp 74) (Operand.tmp 75), type := 0, pos := "law.go:106", after := #[{ on := 10, ground := Ground.data }, { on := 11, ground := Ground.data }], guard := none }) (v := ?zv12_13) rfl (by kernel_rfl) (by kernel_rfl) (by kernel_rfl) (fun _ _ _ h => h) (by decide) (Or.inl ⟨by rfl, ?zy12_13⟩) (fun _ => hS0) ?zrest12_13
            case zy12_13 =>
              intro w _
              go_simp
              try with_reducible rfl
            try simp only [Act.put, List.setIfInBounds_toArray, List.set_cons_zero, List.set_cons_succ]
            refine wpAnyZ_load (i := 13) (oi := { dst := some 77, op := Op.load 5 (Operand.tmp 76), type := 5, pos := "law.go:106", after := #[{ on := 12, ground := Ground.data }], guard := none }) (v := ?zv13_14) rfl (by kernel_rfl) (by kernel_rfl) (by kernel_rfl) (fun _ _ _ h => h) (by decide) (by kernel_rfl) (by kernel_rfl) (Or.inl ⟨by rfl, ?zy13_14⟩) hS0 ?zrest13_14
            case zy13_14 =>
              intro w hSw
              have c := hSw.2
              go_simp
              try with_reducible rfl
            try simp only [Act.put, List.setIfInBounds_toArray, List.set_cons_zero, List.set_cons_succ]
            refine wpAnyZ_take (i := 14) (oi := { dst := some 78, op := Op.convert 5 2 (Operand.tmp 77), type := 2, pos := "law.go:106", after := #[{ on := 13, ground := Ground.data }], guard := none }) (v := ?zv14_15) rfl (by kernel_rfl) (by kernel_rfl) (by kernel_rfl) (fun _ _ _ h => h) (by decide) (Or.inl ⟨by rfl, ?zy14_15⟩) (fun _ => hS0) ?zrest14_15
            case zy14_15 =>
              intro w _
              go_simp
              try with_reducible rfl
            try simp only [Act.put, List.setIfInBounds_toArray, List.set_cons_zero, List.set_cons_succ]
            refine wpAnyZ_ready (rs := [15]) (by kernel_rfl) (by simp) ?_
            refine AllReadyZ.cons (o := { dst := some 79, op := Op.buildSlice 58 1 #[(0, Operand.tmp 78)], type := 58, pos := "law.go:106", after := #[{ on := 14, ground := Ground.data }], guard := none }) rfl (fun K hK => ?_) AllReadyZ.nil
            go_simp
            refine hK.out _ _ (fun _ => hS1) ?_
            clear hK K
            try simp only [Act.put, List.setIfInBounds_toArray, List.set_cons_zero, List.set_cons_succ]
            have hav := hlb.out.2.1
            refine wpAnyZ_ready (rs := [16]) (by kernel_rfl) (by simp) ?_
            refine AllReadyZ.cons (o := { dst := some 80, op := Op.call { callee := Callee.builtin Builtin.append, args := #[Operand.tmp 73, Operand.tmp 79], argTypes := #[58, 58] }, type := 58, pos := "law.go:106", after := #[{ on := 9, ground := Ground.data }, { on := 15, ground := Ground.data }], guard := none }) rfl (fun K hK => ?_) AllReadyZ.nil
            refine step_append_row (by rfl) (.tmp 73) (.tmp 79) 58 (by rfl) hav l0 _ 8 Try.underlying58 hl0 hl1 hl2 hl3 rfl (by omega) (by rfl) ⟨W0.heap.size, 0, none⟩ 1 [.int .i64 z] (by rfl) (by rfl) (cell_one_new _ _ _) (by simp [Value.oneCell']) (by have := hni'.out; unfold maxLen; omega) (by have := hni'.out; omega) ?_
            intro g off cap w4 r1 r2 r3
            have hk4 := hlb.out.2.2 w4 r2.out
            have hS2 : w4.cell? ⟨gh, x, none⟩ = some u ∧ w4.cell? ⟨sb, so + i, none⟩ = some (.int .u8 z) := ⟨hk4.1.1.1, (cell_blk (hk4.1.2 sb hsb)).trans hzc'.out⟩
            have hfin := Lib.hid (hk4.2 g off cap z hzb.out r1.out r3.out)
            have hcz := hk4.1.1.1
            have hfz := hk4.1.1.2
            clear hk4 r1 r2 r3
            refine hK.out _ _ (fun _ => hS2) ?_
            clear hK K
            try simp only [Act.put, List.setIfInBounds_toArray, List.set_cons_zero, List.set_cons_succ]
            refine wpAnyZ_take (i := 17) (oi := { dst := some 81, op := Op.indexAddr 56 (Operand.tmp 64) (Operand.tmp 67), type := 0, pos := "law.go:106", after := #[{ on := 0, ground := Ground.data }, { on := 3, ground := Ground.data }, { on := 0, ground := Ground.phase }, { on := 1, ground := Ground.phase }, { on := 2, ground := Ground.phase }, { on := 3, ground := Ground.phase }, { on := 4, ground := Ground.phase }, { on := 5, ground := Ground.phase }, { on := 6, ground := Ground.phase }, { on := 7, ground := Ground.phase }, { on := 8, ground := Ground.phase }, { on := 9, ground := Ground.phase }, { on := 10, ground := Ground.phase }, { on := 11, ground := Ground.phase }, { on := 12, ground := Ground.phase }, { on := 13, ground := Ground.phase }, { on := 14, ground := Ground.phase }, { on := 15, ground := Ground.phase }, { on := 16, ground := Ground.phase }], guard := none }) (v := ?zv17_16) rfl (by kernel_rfl) (by kernel_rfl) (by kernel_rfl) (fun _ _ _ h => h) (by decide) (Or.inl ⟨by rfl, ?zy17_16⟩) (fun _ => hS2) ?zrest17_16
            case zy17_16 =>
              intro w _
              go_simp
              try with_reducible rfl
            try simp only [Act.put, List.setIfInBounds_toArray, List.set_cons_zero, List.set_cons_succ]
            refine wpAnyZ_ready (rs := [18]) (by kernel_rfl) (by simp) ?_
            refine AllReadyZ.cons (o := { dst := none, op := Op.store 58 (Operand.tmp 81) (Operand.tmp 80), type := 0, pos := "law.go:106", after := #[{ on := 17, ground := Ground.data }, { on := 16, ground := Ground.data }, { on := 16, ground := Ground.chain }, { on := 0, ground := Ground.phase }, { on := 1, ground := Ground.phase }, { on := 2, ground := Ground.phase }, { on := 3, ground := Ground.phase }, { on := 4, ground := Ground.phase }, { on := 5, ground := Ground.phase }, { on := 6, ground := Ground.phase }, { on := 7, ground := Ground.phase }, { on := 8, ground := Ground.phase }, { on := 9, ground := Ground.phase }, { on := 10, ground := Ground.phase }, { on := 11, ground := Ground.phase }, { on := 12, ground := Ground.phase }, { on := 13, ground := Ground.phase }, { on := 14, ground := Ground.phase }, { on := 15, ground := Ground.phase }, { on := 16, ground := Ground.phase }], guard := none }) rfl (fun K hK => ?_) AllReadyZ.nil
            go_simp
            refine hK.out _ _ (fun h => absurd h (by decide)) ?_
            clear hK K
            try simp only [Act.put, List.setIfInBounds_toArray, List.set_cons_zero, List.set_cons_succ]
            refine wpAnyZ_done (by kernel_rfl) ?_ _
            clear hS0 hS1 hS2 hav hcz hfz hl0 hl1 hl2 hl3 hlk' hb0 hb1 hla hlb
            go_wp2_with fail
            go_roundw
            case rel => (repeat apply Exists.intro); first | exact ⟨⟨hgo'.out.1, hgo'.out.2, by go_num, hfin⟩, rfl⟩ | exact ⟨hgo'.out.1, hgo'.out.2, by go_num, hfin, rfl⟩ | exact ⟨hgo'.out.1, hgo'.out.2, by go_num, hfin⟩
            case measure => have := hgo'.out.1; simp [intOf]; omega
          · have hR3 : Hid (SfI w v gh gm kb N pa 0 0 wr) := hM.out.go hi50 hN0
            have hgn := Lib.hid hgo
            clear hM
            by_cases hil2 : i < len1
            · have hz : (i : Int) < (len1 : Int) := by omega
              have hz2 : ¬ (i : Int) < 50 := by have := hgn.out; omega
              clear hgo
              go_wp2_with fail
              go_meet
              case rel => exact hR3
            · have hz : ¬ (i : Int) < (len1 : Int) := by omega
              clear hgo
              go_wp2_with fail
              go_meet
              case rel => exact hR3
      case rest =>
        clear hR2
        obtain ⟨gt, ot, ct, rfl, hct⟩ := hcut.out.form hN0
        have hR3 := hcut
        go_wp2_with fail
        go_loopw [16, 17] (fun s16 s17 wr => ∃ (i : Nat) (g : Int), i ≤ len2 ∧ i ≤ 1000 ∧ s17 = .int .i64 i ∧ s16 = .int .i64 g ∧ Hid (SfI w (.slice (some ⟨gt, ot, none⟩) N ct) gh gm kb N pa i g wr)) (fun _ s17 _ => len2 - (intOf s17).toNat)
        case atStart => exact ⟨0, 0, Nat.zero_le _, Nat.zero_le _, rfl, rfl, hR3⟩
        case round =>
          clear hR3 hcut
          obtain ⟨i, g, hil, hi1k, rfl, rfl, hM⟩ := hrel
          by_cases hgo : i < len2 ∧ i < 1000
          · obtain ⟨hgo1, hgo2⟩ := hgo
            have hz : (i : Int) < (len2 : Int) := by omega
            have hz2 : (i : Int) < 1000 := by omega
            obtain ⟨bb, off, rfl, hbw, hop⟩ : ∃ b off, a2 = some ⟨b, off, none⟩ ∧ b < w.heap.size ∧ ∀ i, i < len2 → ∃ x : Oc, x.fits ∧ OpC w b (off + i * 4) x := by
              rcases hop'.out with h0 | hx
              · omega
              · exact hx
            obtain ⟨⟨what, oa, n, t⟩, hf, hc⟩ := hop i hgo1
            obtain ⟨k0, k1, k2, k3⟩ := hc
            dsimp only at k0 k1 k2 k3
            have hB := hM.out.b
            have hcell : ∀ {o : Nat} {v : Value}, w.cell? ⟨bb, o, none⟩ = some v → wr.cell? ⟨bb, o, none⟩ = some v := fun h => (hB.cell (p := ⟨bb, _, none⟩) hbw).trans h
            have x0 := hcell k0
            have x1 := hcell k1
            have x2 := hcell k2
            have x3 := hcell k3
            have hgo' := Lib.hid (And.intro hgo1 hgo2)
            have hw1 : IntKind.i64.wrap ((i : Int) + 1) = (i : Int) + 1 := IntWalk.i64_in _ (by omega)
            have hM1 : Hid (SfI w (.slice (some ⟨gt, ot, none⟩) N ct) gh gm kb N pa i g (wr.alloc (.cells #[.int .i64 what, .int .i64 oa, .int .i64 n, .int .i64 t] 38))) := hM.out.at' ((Below.refl _ wr).alloc (Nat.le_refl _) _)
            have hbo : Hid (BoxO (wr.alloc (.cells #[.int .i64 what, .int .i64 oa, .int .i64 n, .int .i64 t] 38)) wr.heap.size ⟨what, oa, n, t⟩) := heap_alloc_new wr _
            clear k0 k1 k2 k3 hcell hop hM hB hf hgo1 hgo2
            go_upto_region 24 with fail
            generalize wr.heap.size = Bo at *
            generalize wr.alloc (.cells #[.int .i64 what, .int .i64 oa, .int .i64 n, .int .i64 t] 38) = W1 at *
            clear x0 x1 x2 x3 hz hz2
            have c1 := hbo.out.c1
            dsimp only at c1
            have hNz : ¬ N = 0 := by omega
            have hNz2 : ¬ (N : Int) = 0 := by omega
            obtain ⟨hm1, hm2⟩ := tmod_bd3 oa (N : Int) (by omega)
            have hwm : IntKind.i64.wrap (oa.tmod (N : Int)) = oa.tmod (N : Int) := IntWalk.i64_in _ (by omega)
            go_upto_if 101 with fail
            obtain ⟨x, hx, hxv⟩ : ∃ x : Nat, x < N ∧ Hid ((x : Int) = if oa.tmod (N : Int) < 0 then oa.tmod (N : Int) + N else oa.tmod (N : Int)) := by
              by_cases hneg : oa.tmod (N : Int) < 0
              · exact ⟨(oa.tmod (N : Int) + N).toNat, by omega, by show _ = _; rw [if_pos hneg]; omega⟩
              · exact ⟨(oa.tmod (N : Int)).toNat, by omega, by show _ = _; rw [if_neg hneg]; omega⟩
            go_cut [19] from 82 to 244 (fun s19 wx => s19 = .int .i64 (x : Int) ∧ wx = W1)
            case first =>
              clear c1 hbo hM1
              have hxo := hxv.out
              by_cases hneg : oa.tmod (N : Int) < 0
              · rw [if_pos hneg] at hxo
                have hxo' := Lib.hid hxo
                have hw2 : IntKind.i64.wrap (oa.tmod (N : Int) + (N : Int)) = oa.tmod (N : Int) + (N : Int) := IntWalk.i64_in _ (by omega)
                clear hxo hxv
                go_wp2_with fail
                go_meet
                case rel => exact ⟨congrArg (Value.int IntKind.i64) hxo'.out.symm, rfl⟩
              · rw [if_neg hneg] at hxo
                have hxo' := Lib.hid hxo
                clear hxo hxv
                go_wp2_with fail
                go_meet
                case rel => exact ⟨congrArg (Value.int IntKind.i64) hxo'.out.symm, rfl⟩
            obtain ⟨rfl, hwc⟩ := hcut
            obtain rfl : W1 = wc := hwc.symm
            clear hxv hm1 hm2 hwm c1
            have c2 := hbo.out.c2
            dsimp only at c2
            obtain ⟨hm1, hm2⟩ := tmod_bd3 n (N : Int) (by omega)
            have hwm : IntKind.i64.wrap (n.tmod (N : Int)) = n.tmod (N : Int) := IntWalk.i64_in _ (by omega)
            go_upto_if 110 with fail
            obtain ⟨y, hy, hyv⟩ : ∃ y : Nat, y < N ∧ Hid ((y : Int) = if n.tmod (N : Int) < 0 then n.tmod (N : Int) + N else n.tmod (N : Int)) := by
              by_cases hneg : n.tmod (N : Int) < 0
              · exact ⟨(n.tmod (N : Int) + N).toNat, by omega, by show _ = _; rw [if_pos hneg]; omega⟩
              · exact ⟨(n.tmod (N : Int)).toNat, by omega, by show _ = _; rw [if_neg hneg]; omega⟩
            go_cut [20] from 82 to 244 (fun s20 wx => s20 = .int .i64 (y : Int) ∧ wx = W1)
            case first =>
              clear c2 hbo hM1
              have hyo := hyv.out
              by_cases hneg : n.tmod (N : Int) < 0
              · rw [if_pos hneg] at hyo
                have hyo' := Lib.hid hyo
                have hw2 : IntKind.i64.wrap (n.tmod (N : Int) + (N : Int)) = n.tmod (N : Int) + (N : Int) := IntWalk.i64_in _ (by omega)
                clear hyo hyv
                go_wp2_with fail
                go_meet
                case rel => exact ⟨congrArg (Value.int IntKind.i64) hyo'.out.symm, rfl⟩
              · rw [if_neg hneg] at hyo
                have hyo' := Lib.hid hyo
                clear hyo hyv
                go_wp2_with fail
                go_meet
                case rel => exact ⟨congrArg (Value.int IntKind.i64) hyo'.out.symm, rfl⟩
            obtain ⟨rfl, hwc⟩ := hcut
            obtain rfl : W1 = wc := hwc.symm
            clear hyv hm1 hm2 hwm c2 hNz hNz2
            have c0 := hbo.out.c0
            dsimp only at c0
            have hxz : (x : Int) < (N : Int) := by omega
            have hyz : (y : Int) < (N : Int) := by omega
            have h9 := hgo'.out.2
            by_cases hwh0 : what = 0
            · subst hwh0
              as_aux_lemma =>
                obtain ⟨u, nn, ⟨ua, uc, hu, hcap⟩, hcu, hsend⟩ := hM1.out.send hN6 h9 hx hy
                subst hu
                have cu := hcu.out W1 (Below.refl _ _)
                by_cases hn0 : nn = 0
                · subst hn0
                  have hnx : Hid (SfI w (.slice (some ⟨gt, ot, none⟩) N ct) gh gm kb N pa (i + 1) g W1) := hM1.out.idle (Below.refl _ _)
                  clear hsend hcu hM1 hbo h9
                  go_wp2_with fail
                  go_roundw
                  case rel => (repeat apply Exists.intro); first | exact ⟨⟨hgo'.out.1, hgo'.out.2, by go_num, rfl, hnx⟩, rfl⟩ | exact ⟨hgo'.out.1, hgo'.out.2, by go_num, rfl, hnx, rfl⟩ | exact ⟨hgo'.out.1, hgo'.out.2, by go_num, rfl, hnx⟩
                  case measure => have := hgo'.out.1; simp [intOf]; omega
                · have hnp : 0 < nn := by omega
                  have hnpz : (0 : Int) < (nn : Int) := by omega
                  obtain ⟨hg, of2, cp2, t0, um, nm, lm, c, hu2, hcapn, hnm, ht0, hP⟩ := hsend (nn - 1) (by omega)
                  simp only [Value.slice.injEq, true_and] at hu2
                  obtain ⟨rfl, rfl⟩ := hu2
                  have c3 := hbo.out.c3
                  dsimp only at c3
                  clear hsend
                  have hb3 : Hid (∀ z, (wide W1 z).cell? ⟨Bo, 3, none⟩ = some (.int .i64 t)) := by
                    have hlt : Bo < W1.heap.size := (Array.getElem?_eq_some_iff.1 hbo.out).1
                    exact Lib.hid (fun z => wide_cell z hlt c3)
                  clear hbo c3
                  go_upto_region 41 with fail
                  clear cu c0
                  have d1 : ∀ z, (wide W1 z).cell? ⟨gh, x, none⟩ = some (.slice (some ⟨hg, of2, none⟩) nn uc) := fun z => hcu.out _ (wide_below W1 z)
                  have d2 : ∀ z, (wide W1 z).cell? ⟨hg, of2, none⟩ = some (.int .i64 t0) := fun z => (hP.out _ (wide_below W1 z)).1
                  have d3 := hb3.out
                  obtain ⟨hq1, hq2⟩ := tmod_bd3 t 5 (by omega)
                  obtain ⟨hr1, hr2⟩ := tmod_bd3 (t.tmod 5 + 5) 5 (by omega)
                  have hr3 : 0 ≤ (t.tmod 5 + 5).tmod 5 := Int.tmod_nonneg _ (by omega)
                  obtain ⟨d, hd⟩ : ∃ d : Int, Hid (d = 1 + (t.tmod 5 + 5).tmod 5) := ⟨_, Lib.hid rfl⟩
                  have hd1 : Hid (0 < d ∧ d ≤ 5) := by have := hd.out; exact Lib.hid ⟨by omega, by omega⟩
                  have hwa : IntKind.i64.wrap (t0 + 1) = t0 + 1 := IntWalk.i64_in _ (by omega)
                  have hwb : IntKind.i64.wrap (t.tmod 5) = t.tmod 5 := IntWalk.i64_in _ (by omega)
                  have hwc : IntKind.i64.wrap (t.tmod 5 + 5) = t.tmod 5 + 5 := IntWalk.i64_in _ (by omega)
                  have hwd : IntKind.i64.wrap ((t.tmod 5 + 5).tmod 5) = (t.tmod 5 + 5).tmod 5 := IntWalk.i64_in _ (by omega)
                  have hwe : IntKind.i64.wrap (t0 + 1 + (t.tmod 5 + 5).tmod 5) = t0 + d := by rw [IntWalk.i64_in _ (by omega)]; have := hd.out; omega
                  clear ht0 hq1 hq2 hr1 hr2 hr3
                  refine wp_region_wide (by kernel_rfl) (by kernel_rfl) ?_
                  repeat (first | go_big_quiet_step (fail) | quiet_step (fail))
                  refine wpQuiet_nil ?_
                  refine wide_all fun W2 hb2 => ?_
                  clear d1 d2 d3 hb3 hwa hwb hwc hwd hwe hd
                  obtain ⟨-, fz2, hQ⟩ := hP.out W2 hb2
                  have cu := hcu.out W2 hb2
                  obtain ⟨v1, v2, v3, hcv⟩ : ∃ v1 v2 v3 : Nat, Hid (cutV 1 (.slice (some ⟨hg, of2, none⟩) nn uc) = .slice (some ⟨hg, v1, none⟩) v2 v3) := ⟨_, _, _, Lib.hid rfl⟩
                  have hsl : ∀ W, (Instr.slice 58 (.slice (some ⟨hg, of2, none⟩) nn uc) (some (.int .i64 1)) none none).run Try.prog W = .ok (.slice (some ⟨hg, v1, none⟩) v2 v3) W := fun W => by rw [← hcv.out]; exact run_cutH hnp hcapn W
                  rw [hcv.out] at hQ
                  have hQ' := Lib.hid hQ
                  clear hQ hP hcu hcv hb2 hM1
                  go_upto_region 43 with fail
                  generalize W2.setCell ⟨gh, x, none⟩ (.slice (some ⟨hg, v1, none⟩) v2 v3) = W3 at *
                  clear cu fz2 hsl
                  obtain ⟨p0, hp0, hp1, hp2, hp3⟩ := info_parts infoP3
                  refine wp_region_Z (fun W => W.cell? ⟨gm, y, none⟩ = some um ∧ W.cell? ⟨gt, ot + x, none⟩ = some (.pointer (some ⟨pa x, 0, none⟩))) 17 (by kernel_rfl) ?_
                  have hS0 := (hQ'.out W3.drew (Below.refl _ W3).drew).1
                  have hD := Lib.hid ((hQ'.out W3.drew (Below.refl _ W3).drew).2 d hd1.out.1 hd1.out.2)
                  refine wpAnyZ_take (i := 0) (oi := { dst := some 188, op := Op.move (Operand.tmp 14), type := 57, pos := "law.go:124", after := #[], guard := none }) (v := ?zv0_17) rfl (by kernel_rfl) (by kernel_rfl) (by kernel_rfl) (fun _ _ _ h => h) (by decide) (Or.inl ⟨by rfl, ?zy0_17⟩) (fun _ => hS0) ?zrest0_17
                  case zy0_17 =>
                    intro w _
                    go_simp
                    try with_reducible rfl
                  try simp only [Act.put, List.setIfInBounds_toArray, List.set_cons_zero, List.set_cons_succ]
                  refine wpAnyZ_take (i := 1) (oi := { dst := some 189, op := Op.move (Operand.tmp 20), type := 3, pos := "law.go:124", after := #[], guard := none }) (v := ?zv1_18) rfl (by kernel_rfl) (by kernel_rfl) (by kernel_rfl) (fun _ _ _ h => h) (by decide) (Or.inl ⟨by rfl, ?zy1_18⟩) (fun _ => hS0) ?zrest1_18
                  case zy1_18 =>
                    intro w _
                    go_simp
                    try with_reducible rfl
                  try simp only [Act.put, List.setIfInBounds_toArray, List.set_cons_zero, List.set_cons_succ]
                  refine wpAnyZ_take (i := 2) (oi := { dst := some 190, op := Op.move (Operand.tmp 14), type := 57, pos := "law.go:124", after := #[], guard := none }) (v := ?zv2_19) rfl (by kernel_rfl) (by kernel_rfl) (by kernel_rfl) (fun _ _ _ h => h) (by decide) (Or.inl ⟨by rfl, ?zy2_19⟩) (fun _ => hS0) ?zrest2_19
                  case zy2_19 =>
                    intro w _
                    go_simp
                    try with_reducible rfl
                  try simp only [Act.put, List.setIfInBounds_toArray, List.set_cons_zero, List.set_cons_succ]
                  refine wpAnyZ_take (i := 3) (oi := { dst := some 191, op := Op.move (Operand.tmp 20), type := 3, pos := "law.go:124", after := #[], guard := none }) (v := ?zv3_20) rfl (by kernel_rfl) (by kernel_rfl) (by kernel_rfl) (fun _ _ _ h => h) (by decide) (Or.inl ⟨by rfl, ?zy3_20⟩) (fun _ => hS0) ?zrest3_20
                  case zy3_20 =>
                    intro w _
                    go_simp
                    try with_reducible rfl
                  try simp only [Act.put, List.setIfInBounds_toArray, List.set_cons_zero, List.set_cons_succ]
                  refine wpAnyZ_take (i := 4) (oi := { dst := some 192, op := Op.indexAddr 57 (Operand.tmp 190) (Operand.tmp 191), type := 0, pos := "law.go:124", after := #[{ on := 2, ground := Ground.data }, { on := 3, ground := Ground.data }], guard := none }) (v := ?zv4_21) rfl (by kernel_rfl) (by kernel_rfl) (by kernel_rfl) (fun _ _ _ h => h) (by decide) (Or.inl ⟨by rfl, ?zy4_21⟩) (fun _ => hS0) ?zrest4_21
                  case zy4_21 =>
                    intro w _
                    go_simp
                    try with_reducible rfl
                  try simp only [Act.put, List.setIfInBounds_toArray, List.set_cons_zero, List.set_cons_succ]
                  refine wpAnyZ_load (i := 5) (oi := { dst := some 193, op := Op.load 59 (Operand.tmp 192), type := 59, pos := "law.go:124", after := #[{ on := 4, ground := Ground.data }], guard := none }) (v := ?zv5_22) rfl (by kernel_rfl) (by kernel_rfl) (by kernel_rfl) (fun _ _ _ h => h) (by decide) (by kernel_rfl) (by kernel_rfl) (Or.inl ⟨by rfl, ?zy5_22⟩) hS0 ?zrest5_22
                  case zy5_22 =>
                    intro w hSw
                    have c := hSw.1
                    go_simp
                    try with_reducible rfl
                  try simp only [Act.put, List.setIfInBounds_toArray, List.set_cons_zero, List.set_cons_succ]
                  refine wpAnyZ_take (i := 6) (oi := { dst := some 194, op := Op.move (Operand.tmp 21), type := 2, pos := "law.go:124", after := #[], guard := none }) (v := ?zv6_23) rfl (by kernel_rfl) (by kernel_rfl) (by kernel_rfl) (fun _ _ _ h => h) (by decide) (Or.inl ⟨by rfl, ?zy6_23⟩) (fun _ => hS0) ?zrest6_23
                  case zy6_23 =>
                    intro w _
                    go_simp
                    try with_reducible rfl
                  try simp only [Act.put, List.setIfInBounds_toArray, List.set_cons_zero, List.set_cons_succ]
                  refine wpAnyZ_take (i := 7) (oi := { dst := some 195, op := Op.move (Operand.tmp 10), type := 31, pos := "law.go:124", after := #[], guard := none }) (v := ?zv7_24) rfl (by kernel_rfl) (by kernel_rfl) (by kernel_rfl) (fun _ _ _ h => h) (by decide) (Or.inl ⟨by rfl, ?zy7_24⟩) (fun _ => hS0) ?zrest7_24
                  case zy7_24 =>
                    intro w _
                    go_simp
                    try with_reducible rfl
                  try simp only [Act.put, List.setIfInBounds_toArray, List.set_cons_zero, List.set_cons_succ]
                  refine wpAnyZ_take (i := 8) (oi := { dst := some 196, op := Op.move (Operand.tmp 19), type := 3, pos := "law.go:124", after := #[], guard := none }) (v := ?zv8_25) rfl (by kernel_rfl) (by kernel_rfl) (by kernel_rfl) (fun _ _ _ h => h) (by decide) (Or.inl ⟨by rfl, ?zy8_25⟩) (fun _ => hS0) ?zrest8_25
                  case zy8_25 =>
                    intro w _
                    go_simp
                    try with_reducible rfl
                  try simp only [Act.put, List.setIfInBounds_toArray, List.set_cons_zero, List.set_cons_succ]
                  refine wpAnyZ_take (i := 9) (oi := { dst := some 197, op := Op.indexAddr 31 (Operand.tmp 195) (Operand.tmp 196), type := 0, pos := "law.go:124", after := #[{ on := 7, ground := Ground.data }, { on := 8, ground := Ground.data }], guard := none }) (v := ?zv9_26) rfl (by kernel_rfl) (by kernel_rfl) (by kernel_rfl) (fun _ _ _ h => h) (by decide) (Or.inl ⟨by rfl, ?zy9_26⟩) (fun _ => hS0) ?zrest9_26
                  case zy9_26 =>
                    intro w _
                    go_simp
                    try with_reducible rfl
                  try simp only [Act.put, List.setIfInBounds_toArray, List.set_cons_zero, List.set_cons_succ]
                  refine wpAnyZ_load (i := 10) (oi := { dst := some 198, op := Op.load 33 (Operand.tmp 197), type := 33, pos := "law.go:124", after := #[{ on := 9, ground := Ground.data }], guard := none }) (v := ?zv10_27) rfl (by kernel_rfl) (by kernel_rfl) (by kernel_rfl) (fun _ _ _ h => h) (by decide) (by kernel_rfl) (by kernel_rfl) (Or.inl ⟨by rfl, ?zy10_27⟩) hS0 ?zrest10_27
                  case zy10_27 =>
                    intro w hSw
                    have c := hSw.2
                    go_simp
                    try with_reducible rfl
                  try simp only [Act.put, List.setIfInBounds_toArray, List.set_cons_zero, List.set_cons_succ]
                  refine wpAnyZ_take (i := 11) (oi := { dst := some 199, op := Op.move (Operand.tmp 21), type := 2, pos := "law.go:124", after := #[], guard := none }) (v := ?zv11_28) rfl (by kernel_rfl) (by kernel_rfl) (by kernel_rfl) (fun _ _ _ h => h) (by decide) (Or.inl ⟨by rfl, ?zy11_28⟩) (fun _ => hS0) ?zrest11_28
                  case zy11_28 =>
                    intro w _
                    go_simp
                    try with_reducible rfl
                  try simp only [Act.put, List.setIfInBounds_toArray, List.set_cons_zero, List.set_cons_succ]
                  refine wpAnyZ_ready (rs := [12]) (by kernel_rfl) (by simp) ?_
                  refine AllReadyZ.cons (o := { dst := some 200, op := Op.call { callee := Callee.value (Operand.func 12), args := #[Operand.tmp 198, Operand.tmp 199], argTypes := #[33, 2] }, type := 3, pos := "law.go:124", after := #[{ on := 10, ground := Ground.data }, { on := 11, ground := Ground.data }], guard := none }) rfl (fun K hK => ?_) AllReadyZ.nil
                  go_simp
                  refine hD.out.mono ?_
                  rintro e w3 ⟨rfl, hE⟩
                  have hS2 := ((hE.out w3 (Below.refl _ _)).1).1
                  refine hK.out _ _ (fun _ => hS2) ?_
                  clear hK K
                  try simp only [Act.put, List.setIfInBounds_toArray, List.set_cons_zero, List.set_cons_succ]
                  refine wpAnyZ_take (i := 13) (oi := { dst := some 201, op := Op.build 61 #[(0, Operand.tmp 194), (1, Operand.tmp 200)], type := 61, pos := "law.go:124", after := #[{ on := 6, ground := Ground.data }, { on := 12, ground := Ground.data }], guard := none }) (v := ?zv13_29) rfl (by kernel_rfl) (by kernel_rfl) (by kernel_rfl) (fun _ _ _ h => h) (by decide) (Or.inl ⟨by rfl, ?zy13_29⟩) (fun _ => hS2) ?zrest13_29
                  case zy13_29 =>
                    intro w _
                    go_simp
                    try with_reducible rfl
                  try simp only [Act.put, List.setIfInBounds_toArray, List.set_cons_zero, List.set_cons_succ]
                  have hE3 := hE.out (w3.alloc (.cells #[.int .i64 (t0 + d), .int .i64 (colI c)] 61)) ((Below.refl _ w3).alloc (Nat.le_refl _) _)
                  have hna := heap_alloc_new w3 (.cells #[.int .i64 (t0 + d), .int .i64 (colI c)] 61)
                  refine wpAnyZ_ready (rs := [14]) (by kernel_rfl) (by simp) ?_
                  refine AllReadyZ.cons (o := { dst := some 202, op := Op.buildSlice 59 1 #[(0, Operand.tmp 201)], type := 59, pos := "law.go:124", after := #[{ on := 13, ground := Ground.data }], guard := none }) rfl (fun K hK => ?_) AllReadyZ.nil
                  refine step_buildSlice (by rfl) 59 1 #[(0, .tmp 201)] (by rfl) #[(0, .agg #[.int .i64 (t0 + d), .int .i64 (colI c)])] (by simp only [List.map_toArray, List.map_cons, List.map_nil]; rfl) (lit_parc _ _ w3) ?_
                  refine hK.out _ _ (fun _ => hE3.1.1) ?_
                  clear hK K
                  try simp only [Act.put, List.setIfInBounds_toArray, List.set_cons_zero, List.set_cons_succ]
                  have hav := hE3.1.2
                  refine wpAnyZ_ready (rs := [15]) (by kernel_rfl) (by simp) ?_
                  refine AllReadyZ.cons (o := { dst := some 203, op := Op.call { callee := Callee.builtin Builtin.append, args := #[Operand.tmp 193, Operand.tmp 202], argTypes := #[59, 59] }, type := 59, pos := "law.go:124", after := #[{ on := 5, ground := Ground.data }, { on := 14, ground := Ground.data }, { on := 12, ground := Ground.chain }], guard := none }) rfl (fun K hK => ?_) AllReadyZ.nil
                  refine step_append_row (by rfl) (.tmp 193) (.tmp 202) 59 (by rfl) hav p0 _ 16 Try.underlying59 hp0 hp1 hp2 hp3 rfl (by omega) (by rfl) ⟨w3.heap.size, 0, none⟩ 1 [.int .i64 (t0 + d), .int .i64 (colI c)] (by rfl) (by rfl) (fun j u hj => news_of hna j u hj) (by simp [Value.oneCell']) (by unfold maxLen; omega) (by omega) ?_
                  intro g2 of3 cp3 w4 r1 r2 r3
                  have hk4 := hE3.2 w4 r2.out
                  have hS3 := hk4.1.1
                  have hnx := Lib.hid (hk4.2 g2 of3 cp3 r1.out r3.out)
                  have hcz := hk4.1.1.1
                  have hfz := hk4.1.2
                  clear r1 r2 r3
                  refine hK.out _ _ (fun _ => hS3) ?_
                  clear hK K
                  try simp only [Act.put, List.setIfInBounds_toArray, List.set_cons_zero, List.set_cons_succ]
                  refine wpAnyZ_take (i := 16) (oi := { dst := some 204, op := Op.indexAddr 57 (Operand.tmp 188) (Operand.tmp 189), type := 0, pos := "law.go:124", after := #[{ on := 0, ground := Ground.data }, { on := 1, ground := Ground.data }, { on := 0, ground := Ground.phase }, { on := 1, ground := Ground.phase }, { on := 2, ground := Ground.phase }, { on := 3, ground := Ground.phase }, { on := 4, ground := Ground.phase }, { on := 5, ground := Ground.phase }, { on := 6, ground := Ground.phase }, { on := 7, ground := Ground.phase }, { on := 8, ground := Ground.phase }, { on := 9, ground := Ground.phase }, { on := 10, ground := Ground.phase }, { on := 11, ground := Ground.phase }, { on := 12, ground := Ground.phase }, { on := 13, ground := Ground.phase }, { on := 14, ground := Ground.phase }, { on := 15, ground := Ground.phase }], guard := none }) (v := ?zv16_30) rfl (by kernel_rfl) (by kernel_rfl) (by kernel_rfl) (fun _ _ _ h => h) (by decide) (Or.inl ⟨by rfl, ?zy16_30⟩) (fun _ => hS3) ?zrest16_30
                  case zy16_30 =>
                    intro w _
                    go_simp
                    try with_reducible rfl
                  try simp only [Act.put, List.setIfInBounds_toArray, List.set_cons_zero, List.set_cons_succ]
                  refine wpAnyZ_ready (rs := [17]) (by kernel_rfl) (by simp) ?_
                  refine AllReadyZ.cons (o := { dst := none, op := Op.store 59 (Operand.tmp 204) (Operand.tmp 203), type := 0, pos := "law.go:124", after := #[{ on := 16, ground := Ground.data }, { on := 15, ground := Ground.data }, { on := 15, ground := Ground.chain }, { on := 0, ground := Ground.phase }, { on := 1, ground := Ground.phase }, { on := 2, ground := Ground.phase }, { on := 3, ground := Ground.phase }, { on := 4, ground := Ground.phase }, { on := 5, ground := Ground.phase }, { on := 6, ground := Ground.phase }, { on := 7, ground := Ground.phase }, { on := 8, ground := Ground.phase }, { on := 9, ground := Ground.phase }, { on := 10, ground := Ground.phase }, { on := 11, ground := Ground.phase }, { on := 12, ground := Ground.phase }, { on := 13, ground := Ground.phase }, { on := 14, ground := Ground.phase }, { on := 15, ground := Ground.phase }], guard := none }) rfl (fun K hK => ?_) AllReadyZ.nil
                  go_simp
                  refine hK.out _ _ (fun h => absurd h (by decide)) ?_
                  clear hK K
                  try simp only [Act.put, List.setIfInBounds_toArray, List.set_cons_zero, List.set_cons_succ]
                  refine wpAnyZ_done (by kernel_rfl) ?_ _
                  clear hS0 hD hE hE3 hav hna hS2 hS3 hk4 hcz hfz hQ' hp0 hp1 hp2 hp3 hd1
                  go_wp2_with fail
                  go_roundw
                  case rel => (repeat apply Exists.intro); first | exact ⟨⟨hgo'.out.1, hgo'.out.2, by go_num, rfl, hnx⟩, rfl⟩ | exact ⟨hgo'.out.1, hgo'.out.2, by go_num, rfl, hnx, rfl⟩ | exact ⟨hgo'.out.1, hgo'.out.2, by go_num, rfl, hnx⟩
                  case measure => have := hgo'.out.1; simp [intOf]; omega
            · by_cases hwh1 : what = 1
              · subst hwh1
                as_aux_lemma =>
                  obtain ⟨u, nn, ⟨ua, uc, hu, hcap⟩, hcu, hget⟩ := hM1.out.get hN6 h9 hx
                  subst hu
                  have cu := hcu.out W1 (Below.refl _ _)
                  by_cases hn0 : nn = 0
                  · subst hn0
                    have hnx : Hid (SfI w (.slice (some ⟨gt, ot, none⟩) N ct) gh gm kb N pa (i + 1) g W1) := hM1.out.idle (Below.refl _ _)
                    clear hget hcu hM1 hbo h9
                    go_wp2_with fail
                    go_roundw
                    case rel => (repeat apply Exists.intro); first | exact ⟨⟨hgo'.out.1, hgo'.out.2, by go_num, rfl, hnx⟩, rfl⟩ | exact ⟨hgo'.out.1, hgo'.out.2, by go_num, rfl, hnx, rfl⟩ | exact ⟨hgo'.out.1, hgo'.out.2, by go_num, rfl, hnx⟩
                    case measure => have := hgo'.out.1; simp [intOf]; omega
                  · have hnp : 0 < nn := by omega
                    have hnpz : (0 : Int) < (nn : Int) := by omega
                    obtain ⟨mg, of2, cp2, t0, c, uh, nh, lh, hu2, hcapn, hnh, hc2, hP⟩ := hget (nn - 1) (by omega)
                    simp only [Value.slice.injEq, true_and] at hu2
                    obtain ⟨rfl, rfl⟩ := hu2
                    obtain ⟨m0, m1⟩ := hc2.out W1 (Below.refl _ _)
                    have hP1 := Lib.hid (hP.out W1 (Below.refl _ _) _ rfl)
                    clear hget hbo hcu hP hc2 hM1
                    go_upto_region 47 with fail
                    generalize W1.heap.size = Bp at *
                    generalize W1.alloc (.cells #[.int .i64 t0, .int .i64 (colI c)] 61) = W2 at *
                    obtain ⟨⟨fz2, cu2⟩, hQ⟩ := hP1.out
                    obtain ⟨v1, v2, v3, hcv⟩ : ∃ v1 v2 v3 : Nat, Hid (cutV 2 (.slice (some ⟨mg, of2, none⟩) nn uc) = .slice (some ⟨mg, v1, none⟩) v2 v3) := ⟨_, _, _, Lib.hid rfl⟩
                    have hsl : ∀ W, (Instr.slice 59 (.slice (some ⟨mg, of2, none⟩) nn uc) (some (.int .i64 1)) none none).run Try.prog W = .ok (.slice (some ⟨mg, v1, none⟩) v2 v3) W := fun W => by rw [← hcv.out]; exact run_cutM hnp hcapn W
                    rw [hcv.out] at hQ
                    have hQ' := Lib.hid hQ
                    clear hQ hP1 hcv cu m0 m1 c0
                    go_upto_region 48 with fail
                    generalize W2.setCell ⟨gm, x, none⟩ (.slice (some ⟨mg, v1, none⟩) v2 v3) = W3 at *
                    clear cu2 fz2 hsl
                    refine wp_region_Z (fun W => W.cell? ⟨gt, ot + x, none⟩ = some (.pointer (some ⟨pa x, 0, none⟩)) ∧ W.cell? ⟨Bp, 1, none⟩ = some (.int .i64 (colI c))) 6 (by kernel_rfl) ?_
                    have hD0 := Lib.hid (hQ'.out W3.drew (Below.refl _ W3).drew)
                    have hS0 := hD0.out.1
                    refine wpAnyZ_take (i := 0) (oi := { dst := some 227, op := Op.move (Operand.tmp 10), type := 31, pos := "law.go:130", after := #[], guard := none }) (v := ?zv0_31) rfl (by kernel_rfl) (by kernel_rfl) (by kernel_rfl) (fun _ _ _ h => h) (by decide) (Or.inl ⟨by rfl, ?zy0_31⟩) (fun _ => hS0) ?zrest0_31
                    case zy0_31 =>
                      intro w _
                      go_simp
                      try with_reducible rfl
                    try simp only [Act.put, List.setIfInBounds_toArray, List.set_cons_zero, List.set_cons_succ]
                    refine wpAnyZ_take (i := 1) (oi := { dst := some 228, op := Op.move (Operand.tmp 19), type := 3, pos := "law.go:130", after := #[], guard := none }) (v := ?zv1_32) rfl (by kernel_rfl) (by kernel_rfl) (by kernel_rfl) (fun _ _ _ h => h) (by decide) (Or.inl ⟨by rfl, ?zy1_32⟩) (fun _ => hS0) ?zrest1_32
                    case zy1_32 =>
                      intro w _
                      go_simp
                      try with_reducible rfl
                    try simp only [Act.put, List.setIfInBounds_toArray, List.set_cons_zero, List.set_cons_succ]
                    refine wpAnyZ_take (i := 2) (oi := { dst := some 229, op := Op.indexAddr 31 (Operand.tmp 227) (Operand.tmp 228), type := 0, pos := "law.go:130", after := #[{ on := 0, ground := Ground.data }, { on := 1, ground := Ground.data }], guard := none }) (v := ?zv2_33) rfl (by kernel_rfl) (by kernel_rfl) (by kernel_rfl) (fun _ _ _ h => h) (by decide) (Or.inl ⟨by rfl, ?zy2_33⟩) (fun _ => hS0) ?zrest2_33
                    case zy2_33 =>
                      intro w _
                      go_simp
                      try with_reducible rfl
                    try simp only [Act.put, List.setIfInBounds_toArray, List.set_cons_zero, List.set_cons_succ]
                    refine wpAnyZ_load (i := 3) (oi := { dst := some 230, op := Op.load 33 (Operand.tmp 229), type := 33, pos := "law.go:130", after := #[{ on := 2, ground := Ground.data }], guard := none }) (v := ?zv3_34) rfl (by kernel_rfl) (by kernel_rfl) (by kernel_rfl) (fun _ _ _ h => h) (by decide) (by kernel_rfl) (by kernel_rfl) (Or.inl ⟨by rfl, ?zy3_34⟩) hS0 ?zrest3_34
                    case zy3_34 =>
                      intro w hSw
                      have c := hSw.1
                      go_simp
                      try with_reducible rfl
                    try simp only [Act.put, List.setIfInBounds_toArray, List.set_cons_zero, List.set_cons_succ]
                    refine wpAnyZ_take (i := 4) (oi := { dst := some 231, op := Op.fieldAddr 61 (Operand.tmp 22) 1, type := 0, pos := "law.go:130", after := #[], guard := none }) (v := ?zv4_35) rfl (by kernel_rfl) (by kernel_rfl) (by kernel_rfl) (fun _ _ _ h => h) (by decide) (Or.inl ⟨by rfl, ?zy4_35⟩) (fun _ => hS0) ?zrest4_35
                    case zy4_35 =>
                      intro w _
                      go_simp
                      try with_reducible rfl
                    try simp only [Act.put, List.setIfInBounds_toArray, List.set_cons_zero, List.set_cons_succ]
                    refine wpAnyZ_load (i := 5) (oi := { dst := some 232, op := Op.load 3 (Operand.tmp 231), type := 3, pos := "law.go:130", after := #[{ on := 4, ground := Ground.data }], guard := none }) (v := ?zv5_36) rfl (by kernel_rfl) (by kernel_rfl) (by kernel_rfl) (fun _ _ _ h => h) (by decide) (by kernel_rfl) (by kernel_rfl) (Or.inl ⟨by rfl, ?zy5_36⟩) hS0 ?zrest5_36
                    case zy5_36 =>
                      intro w hSw
                      have c := hSw.2
                      go_simp
                      try with_reducible rfl
                    try simp only [Act.put, List.setIfInBounds_toArray, List.set_cons_zero, List.set_cons_succ]
                    refine wpAnyZ_ready (rs := [6]) (by kernel_rfl) (by simp) ?_
                    refine AllReadyZ.cons (o := { dst := some 233, op := Op.call { callee := Callee.value (Operand.func 14), args := #[Operand.tmp 230, Operand.tmp 232], argTypes := #[33, 3] }, type := 24, pos := "law.go:130", after := #[{ on := 3, ground := Ground.data }, { on := 5, ground := Ground.data }], guard := none }) rfl (fun K hK => ?_) AllReadyZ.nil
                    go_simp
                    refine hD0.out.2.mono ?_
                    rintro e w3 ⟨rfl, hD⟩
                    refine hK.out _ _ (fun h => absurd h (by decide)) ?_
                    clear hK K
                    try simp only [Act.put, List.setIfInBounds_toArray, List.set_cons_zero, List.set_cons_succ]
                    refine wpAnyZ_done (by kernel_rfl) ?_ _
                    clear hS0 hD0 hQ'
                    go_upto_region 49 with fail
                    obtain ⟨l0, hl0, hl1, hl2, hl3⟩ := info_parts infoI3
                    refine wp_region_Z (fun W => W.cell? ⟨Bp, 0, none⟩ = some (.int .i64 t0) ∧ W.cell? ⟨gh, x, none⟩ = some uh) 11 (by kernel_rfl) ?_
                    have hE := Lib.hid (hD.out w3.drew (Below.refl _ w3).drew)
                    generalize w3.drew = W4 at *
                    unfold GotTo at hE
                    have hS0 := hE.out.1.1
                    have hba : Below W4.heap.size W4 (W4.alloc (.cells #[.int .i64 t0] 2)) := (Below.refl _ W4).alloc (Nat.le_refl _) _
                    have hE4 := hE.out.2 _ hba
                    refine wpAnyZ_take (i := 0) (oi := { dst := some 234, op := Op.move (Operand.tmp 13), type := 56, pos := "law.go:131", after := #[], guard := none }) (v := ?zv0_37) rfl (by kernel_rfl) (by kernel_rfl) (by kernel_rfl) (fun _ _ _ h => h) (by decide) (Or.inl ⟨by rfl, ?zy0_37⟩) (fun _ => hS0) ?zrest0_37
                    case zy0_37 =>
                      intro w _
                      go_simp
                      try with_reducible rfl
                    try simp only [Act.put, List.setIfInBounds_toArray, List.set_cons_zero, List.set_cons_succ]
                    refine wpAnyZ_take (i := 1) (oi := { dst := some 235, op := Op.move (Operand.tmp 19), type := 3, pos := "law.go:131", after := #[], guard := none }) (v := ?zv1_38) rfl (by kernel_rfl) (by kernel_rfl) (by kernel_rfl) (fun _ _ _ h => h) (by decide) (Or.inl ⟨by rfl, ?zy1_38⟩) (fun _ => hS0) ?zrest1_38
                    case zy1_38 =>
                      intro w _
                      go_simp
                      try with_reducible rfl
                    try simp only [Act.put, List.setIfInBounds_toArray, List.set_cons_zero, List.set_cons_succ]
                    refine wpAnyZ_take (i := 2) (oi := { dst := some 236, op := Op.fieldAddr 61 (Operand.tmp 22) 0, type := 0, pos := "law.go:131", after := #[], guard := none }) (v := ?zv2_39) rfl (by kernel_rfl) (by kernel_rfl) (by kernel_rfl) (fun _ _ _ h => h) (by decide) (Or.inl ⟨by rfl, ?zy2_39⟩) (fun _ => hS0) ?zrest2_39
                    case zy2_39 =>
                      intro w _
                      go_simp
                      try with_reducible rfl
                    try simp only [Act.put, List.setIfInBounds_toArray, List.set_cons_zero, List.set_cons_succ]
                    refine wpAnyZ_load (i := 3) (oi := { dst := some 237, op := Op.load 2 (Operand.tmp 236), type := 2, pos := "law.go:131", after := #[{ on := 2, ground := Ground.data }], guard := none }) (v := ?zv3_40) rfl (by kernel_rfl) (by kernel_rfl) (by kernel_rfl) (fun _ _ _ h => h) (by decide) (by kernel_rfl) (by kernel_rfl) (Or.inl ⟨by rfl, ?zy3_40⟩) hS0 ?zrest3_40
                    case zy3_40 =>
                      intro w hSw
                      have c := hSw.1
                      go_simp
                      try with_reducible rfl
                    try simp only [Act.put, List.setIfInBounds_toArray, List.set_cons_zero, List.set_cons_succ]
                    refine wpAnyZ_take (i := 5) (oi := { dst := some 239, op := Op.move (Operand.tmp 13), type := 56, pos := "law.go:131", after := #[], guard := none }) (v := ?zv5_41) rfl (by kernel_rfl) (by kernel_rfl) (by kernel_rfl) (fun _ _ _ h => h) (by decide) (Or.inl ⟨by rfl, ?zy5_41⟩) (fun _ => hS0) ?zrest5_41
                    case zy5_41 =>
                      intro w _
                      go_simp
                      try with_reducible rfl
                    try simp only [Act.put, List.setIfInBounds_toArray, List.set_cons_zero, List.set_cons_succ]
                    refine wpAnyZ_take (i := 6) (oi := { dst := some 240, op := Op.move (Operand.tmp 19), type := 3, pos := "law.go:131", after := #[], guard := none }) (v := ?zv6_42) rfl (by kernel_rfl) (by kernel_rfl) (by kernel_rfl) (fun _ _ _ h => h) (by decide) (Or.inl ⟨by rfl, ?zy6_42⟩) (fun _ => hS0) ?zrest6_42
                    case zy6_42 =>
                      intro w _
                      go_simp
                      try with_reducible rfl
                    try simp only [Act.put, List.setIfInBounds_toArray, List.set_cons_zero, List.set_cons_succ]
                    refine wpAnyZ_take (i := 7) (oi := { dst := some 241, op := Op.indexAddr 56 (Operand.tmp 239) (Operand.tmp 240), type := 0, pos := "law.go:131", after := #[{ on := 5, ground := Ground.data }, { on := 6, ground := Ground.data }], guard := none }) (v := ?zv7_43) rfl (by kernel_rfl) (by kernel_rfl) (by kernel_rfl) (fun _ _ _ h => h) (by decide) (Or.inl ⟨by rfl, ?zy7_43⟩) (fun _ => hS0) ?zrest7_43
                    case zy7_43 =>
                      intro w _
                      go_simp
                      try with_reducible rfl
                    try simp only [Act.put, List.setIfInBounds_toArray, List.set_cons_zero, List.set_cons_succ]
                    refine wpAnyZ_load (i := 8) (oi := { dst := some 242, op := Op.load 58 (Operand.tmp 241), type := 58, pos := "law.go:131", after := #[{ on := 7, ground := Ground.data }], guard := none }) (v := ?zv8_44) rfl (by kernel_rfl) (by kernel_rfl) (by kernel_rfl) (fun _ _ _ h => h) (by decide) (by kernel_rfl) (by kernel_rfl) (Or.inl ⟨by rfl, ?zy8_44⟩) hS0 ?zrest8_44
                    case zy8_44 =>
                      intro w hSw
                      have c := hSw.2
                      go_simp
                      try with_reducible rfl
                    try simp only [Act.put, List.setIfInBounds_toArray, List.set_cons_zero, List.set_cons_succ]
                    refine wpAnyZ_ready (rs := [4]) (by kernel_rfl) (by simp) ?_
                    refine AllReadyZ.cons (o := { dst := some 238, op := Op.buildSlice 58 1 #[(0, Operand.tmp 237)], type := 58, pos := "law.go:131", after := #[{ on := 3, ground := Ground.data }], guard := none }) rfl (fun K hK => ?_) AllReadyZ.nil
                    go_simp
                    refine hK.out _ _ (fun _ => hE4.1.1) ?_
                    clear hK K
                    try simp only [Act.put, List.setIfInBounds_toArray, List.set_cons_zero, List.set_cons_succ]
                    have hav : RowAt (W4.alloc (.cells #[.int .i64 t0] 2)) 2 1 uh nh (ints lh) := hE.out.1.2.kept (S := fun _ => False) (.of_below hba) (fun _ _ e => e)
                    have hnb := heap_alloc_new W4 (.cells #[.int .i64 t0] 2)
                    refine wpAnyZ_ready (rs := [9]) (by kernel_rfl) (by simp) ?_
                    refine AllReadyZ.cons (o := { dst := some 243, op := Op.call { callee := Callee.builtin Builtin.append, args := #[Operand.tmp 238, Operand.tmp 242], argTypes := #[58, 58] }, type := 58, pos := "law.go:131", after := #[{ on := 4, ground := Ground.data }, { on := 8, ground := Ground.data }], guard := none }) rfl (fun K hK => ?_) AllReadyZ.nil
                    refine step_prepend (by rfl) (.tmp 238) (.tmp 242) 58 (by rfl) hav l0 _ 8 Try.underlying58 hl0 hl1 hl2 hl3 rfl W4.heap.size (.int .i64 t0) hnb (by rfl) (by rfl) (ints_one lh) (by unfold maxLen; omega) (by omega) ?_
                    intro g2 cp3 w6 r1 r2 r3
                    have hb6 : Below W4.heap.size W4 w6 := hba.trans (r2.out.below (fun k _ e => by omega) hba.size)
                    have hk := hE.out.2 w6 hb6
                    have hS2 := hk.1.1
                    have hnx := Lib.hid (hk.2 g2 cp3 r1.out r3.out)
                    have hcz := hk.1.1.2
                    have hfz := hk.1.2
                    clear hk r1 r2 r3 hb6
                    refine hK.out _ _ (fun _ => hS2) ?_
                    clear hK K
                    try simp only [Act.put, List.setIfInBounds_toArray, List.set_cons_zero, List.set_cons_succ]
                    refine wpAnyZ_take (i := 10) (oi := { dst := some 244, op := Op.indexAddr 56 (Operand.tmp 234) (Operand.tmp 235), type := 0, pos := "law.go:131", after := #[{ on := 0, ground := Ground.data }, { on := 1, ground := Ground.data }, { on := 0, ground := Ground.phase }, { on := 1, ground := Ground.phase }, { on := 2, ground := Ground.phase }, { on := 3, ground := Ground.phase }, { on := 4, ground := Ground.phase }, { on := 5, ground := Ground.phase }, { on := 6, ground := Ground.phase }, { on := 7, ground := Ground.phase }, { on := 8, ground := Ground.phase }, { on := 9, ground := Ground.phase }], guard := none }) (v := ?zv10_45) rfl (by kernel_rfl) (by kernel_rfl) (by kernel_rfl) (fun _ _ _ h => h) (by decide) (Or.inl ⟨by rfl, ?zy10_45⟩) (fun _ => hS2) ?zrest10_45
                    case zy10_45 =>
                      intro w _
                      go_simp
                      try with_reducible rfl
                    try simp only [Act.put, List.setIfInBounds_toArray, List.set_cons_zero, List.set_cons_succ]
                    refine wpAnyZ_ready (rs := [11]) (by kernel_rfl) (by simp) ?_
                    refine AllReadyZ.cons (o := { dst := none, op := Op.store 58 (Operand.tmp 244) (Operand.tmp 243), type := 0, pos := "law.go:131", after := #[{ on := 10, ground := Ground.data }, { on := 9, ground := Ground.data }, { on := 9, ground := Ground.chain }, { on := 0, ground := Ground.phase }, { on := 1, ground := Ground.phase }, { on := 2, ground := Ground.phase }, { on := 3, ground := Ground.phase }, { on := 4, ground := Ground.phase }, { on := 5, ground := Ground.phase }, { on := 6, ground := Ground.phase }, { on := 7, ground := Ground.phase }, { on := 8, ground := Ground.phase }, { on := 9, ground := Ground.phase }], guard := none }) rfl (fun K hK => ?_) AllReadyZ.nil
                    go_simp
                    refine hK.out _ _ (fun h => absurd h (by decide)) ?_
                    clear hK K
                    try simp only [Act.put, List.setIfInBounds_toArray, List.set_cons_zero, List.set_cons_succ]
                    refine wpAnyZ_done (by kernel_rfl) ?_ _
                    clear hS0 hD hE hE4 hba hav hnb hS2 hcz hfz hl0 hl1 hl2 hl3
                    go_wp2_with fail
                    go_roundw
                    case rel => (repeat apply Exists.intro); first | exact ⟨⟨hgo'.out.1, hgo'.out.2, by go_num, rfl, hnx⟩, rfl⟩ | exact ⟨hgo'.out.1, hgo'.out.2, by go_num, rfl, hnx, rfl⟩ | exact ⟨hgo'.out.1, hgo'.out.2, by go_num, rfl, hnx⟩
                    case measure => have := hgo'.out.1; simp [intOf]; omega
              · skip
                as_aux_lemma =>
                  obtain ⟨at', u, lst, told, over, hat, hV⟩ := hM1.out.visit hN6 h9
                  have hV1 := hV.out W1 (Below.refl _ _)
                  have hat1 := Lib.hid hV1.1
                  have hatz : ¬ (N : Int) ≤ (at' : Int) := by omega
                  have hatz2 : (at' : Int) < (N : Int) := by omega
                  have hat' := Lib.hid hat
                  clear hV1 hM1 hbo hat
                  go_upto_region 32 with (go_at_call 18; refine hat1.out.mono ?_; rintro e W2 ⟨rfl, hb2⟩)
                  have hVd := Lib.hid (hV.out W2.drew hb2.drew)
                  clear hV hat1 hb2 c0
                  go_upto_region 34 with fail
                  have hS0 : W2.drew.cell? ⟨gt, ot + at', none⟩ = some (.pointer (some ⟨pa at', 0, none⟩)) ∧ W2.drew.cell? ⟨gh, at', none⟩ = some u := hVd.out.2.1
                  refine wp_region_held_drew (S := fun W => W.cell? ⟨gt, ot + at', none⟩ = some (.pointer (some ⟨pa at', 0, none⟩)) ∧ W.cell? ⟨gh, at', none⟩ = some u) (by kernel_rfl) hS0 (fun hHeld => ?_)
                  clear hHeld
                  refine wpAnyH_take (i := 0) (oi := { dst := some 126, op := Op.move (Operand.tmp 8), type := 23, pos := "law.go:138", after := #[], guard := none }) (v := ?vv0_1) rfl (by kernel_rfl) (by kernel_rfl) (by kernel_rfl) (fun _ _ _ h => h) (Or.inl ⟨by rfl, ?hy0_1⟩) hS0 ?rest0_1
                  case hy0_1 =>
                    intro w hSw
                    go_simp
                    try with_reducible rfl
                  try simp only [Act.put, List.setIfInBounds_toArray, List.set_cons_zero, List.set_cons_succ]
                  refine wpAnyH_take (i := 1) (oi := { dst := some 127, op := Op.move (Operand.tmp 10), type := 31, pos := "law.go:138", after := #[], guard := none }) (v := ?vv1_2) rfl (by kernel_rfl) (by kernel_rfl) (by kernel_rfl) (fun _ _ _ h => h) (Or.inl ⟨by rfl, ?hy1_2⟩) hS0 ?rest1_2
                  case hy1_2 =>
                    intro w hSw
                    go_simp
                    try with_reducible rfl
                  try simp only [Act.put, List.setIfInBounds_toArray, List.set_cons_zero, List.set_cons_succ]
                  refine wpAnyH_take (i := 2) (oi := { dst := some 128, op := Op.move (Operand.tmp 23), type := 3, pos := "law.go:138", after := #[], guard := none }) (v := ?vv2_3) rfl (by kernel_rfl) (by kernel_rfl) (by kernel_rfl) (fun _ _ _ h => h) (Or.inl ⟨by rfl, ?hy2_3⟩) hS0 ?rest2_3
                  case hy2_3 =>
                    intro w hSw
                    go_simp
                    try with_reducible rfl
                  try simp only [Act.put, List.setIfInBounds_toArray, List.set_cons_zero, List.set_cons_succ]
                  refine wpAnyH_take (i := 3) (oi := { dst := some 129, op := Op.indexAddr 31 (Operand.tmp 127) (Operand.tmp 128), type := 0, pos := "law.go:138", after := #[{ on := 1, ground := Ground.data }, { on := 2, ground := Ground.data }], guard := none }) (v := ?vv3_4) rfl (by kernel_rfl) (by kernel_rfl) (by kernel_rfl) (fun _ _ _ h => h) (Or.inl ⟨by rfl, ?hy3_4⟩) hS0 ?rest3_4
                  case hy3_4 =>
                    intro w hSw
                    go_simp
                    try with_reducible rfl
                  try simp only [Act.put, List.setIfInBounds_toArray, List.set_cons_zero, List.set_cons_succ]
                  refine wpAnyH_take (i := 4) (oi := { dst := some 130, op := Op.load 33 (Operand.tmp 129), type := 33, pos := "law.go:138", after := #[{ on := 3, ground := Ground.data }], guard := none }) (v := ?vv4_5) rfl (by kernel_rfl) (by kernel_rfl) (by kernel_rfl) (fun _ _ _ h => h) (Or.inl ⟨by rfl, ?hy4_5⟩) hS0 ?rest4_5
                  case hy4_5 =>
                    intro w hSw
                    have c := hSw.1
                    go_simp
                    try with_reducible rfl
                  try simp only [Act.put, List.setIfInBounds_toArray, List.set_cons_zero, List.set_cons_succ]
                  refine wpAnyH_take (i := 5) (oi := { dst := some 131, op := Op.move (Operand.tmp 13), type := 56, pos := "law.go:138", after := #[], guard := none }) (v := ?vv5_6) rfl (by kernel_rfl) (by kernel_rfl) (by kernel_rfl) (fun _ _ _ h => h) (Or.inl ⟨by rfl, ?hy5_6⟩) hS0 ?rest5_6
                  case hy5_6 =>
                    intro w hSw
                    go_simp
                    try with_reducible rfl
                  try simp only [Act.put, List.setIfInBounds_toArray, List.set_cons_zero, List.set_cons_succ]
                  refine wpAnyH_take (i := 6) (oi := { dst := some 132, op := Op.move (Operand.tmp 23), type := 3, pos := "law.go:138", after := #[], guard := none }) (v := ?vv6_7) rfl (by kernel_rfl) (by kernel_rfl) (by kernel_rfl) (fun _ _ _ h => h) (Or.inl ⟨by rfl, ?hy6_7⟩) hS0 ?rest6_7
                  case hy6_7 =>
                    intro w hSw
                    go_simp
                    try with_reducible rfl
                  try simp only [Act.put, List.setIfInBounds_toArray, List.set_cons_zero, List.set_cons_succ]
                  refine wpAnyH_take (i := 7) (oi := { dst := some 133, op := Op.indexAddr 56 (Operand.tmp 131) (Operand.tmp 132), type := 0, pos := "law.go:138", after := #[{ on := 5, ground := Ground.data }, { on := 6, ground := Ground.data }], guard := none }) (v := ?vv7_8) rfl (by kernel_rfl) (by kernel_rfl) (by kernel_rfl) (fun _ _ _ h => h) (Or.inl ⟨by rfl, ?hy7_8⟩) hS0 ?rest7_8
                  case hy7_8 =>
                    intro w hSw
                    go_simp
                    try with_reducible rfl
                  try simp only [Act.put, List.setIfInBounds_toArray, List.set_cons_zero, List.set_cons_succ]
                  refine wpAnyH_take (i := 8) (oi := { dst := some 134, op := Op.load 58 (Operand.tmp 133), type := 58, pos := "law.go:138", after := #[{ on := 7, ground := Ground.data }], guard := none }) (v := ?vv8_9) rfl (by kernel_rfl) (by kernel_rfl) (by kernel_rfl) (fun _ _ _ h => h) (Or.inl ⟨by rfl, ?hy8_9⟩) hS0 ?rest8_9
                  case hy8_9 =>
                    intro w hSw
                    have c := hSw.2
                    go_simp
                    try with_reducible rfl
                  try simp only [Act.put, List.setIfInBounds_toArray, List.set_cons_zero, List.set_cons_succ]
                  refine wpAnyH_ready (rs := [9]) (by kernel_rfl) (by simp) ?_
                  refine AllReadyH.cons (o := { dst := some 135, op := Op.call { callee := Callee.value (Operand.func 25), args := #[Operand.tmp 134], argTypes := #[58] }, type := 2, pos := "law.go:138", after := #[{ on := 8, ground := Ground.data }], guard := none }) rfl (fun K hK => ?_) AllReadyH.nil
                  go_simp
                  refine hVd.out.2.2.1.mono ?_
                  rintro e w3 ⟨rfl, hw3⟩
                  subst hw3
                  refine hK.out _ _ hS0 (fun hHeld => ?_)
                  clear hHeld hK K
                  try simp only [Act.put, List.setIfInBounds_toArray, List.set_cons_zero, List.set_cons_succ]
                  refine wpAnyH_ready (rs := [10]) (by kernel_rfl) (by simp) ?_
                  refine AllReadyH.cons (o := { dst := some 136, op := Op.call { callee := Callee.value (Operand.func 19), args := #[Operand.tmp 126, Operand.tmp 130, Operand.tmp 135], argTypes := #[23, 33, 2] }, type := 46, pos := "law.go:138", after := #[{ on := 0, ground := Ground.data }, { on := 4, ground := Ground.data }, { on := 9, ground := Ground.data }, { on := 9, ground := Ground.chain }], guard := none }) rfl (fun K hK => ?_) AllReadyH.nil
                  go_simp
                  refine hVd.out.2.2.2.mono ?_
                  rintro e w3 ⟨rfl, hE⟩
                  refine hK.out _ _ hE.out.1 (fun hHeld => ?_)
                  clear hHeld hK K
                  try simp only [Act.put, List.setIfInBounds_toArray, List.set_cons_zero, List.set_cons_succ]
                  refine wpAnyH_take (i := 11) (oi := { dst := some 125, op := Op.move (Operand.tmp 136), type := 46, pos := "law.go:138", after := #[{ on := 10, ground := Ground.data }], guard := none }) (v := ?vv11_10) rfl (by kernel_rfl) (by kernel_rfl) (by kernel_rfl) (fun _ _ _ h => h) (Or.inl ⟨by rfl, ?hy11_10⟩) hE.out.1 ?rest11_10
                  case hy11_10 =>
                    intro w hSw
                    go_simp
                    try with_reducible rfl
                  try simp only [Act.put, List.setIfInBounds_toArray, List.set_cons_zero, List.set_cons_succ]
                  refine wpAnyH_take (i := 12) (oi := { dst := some 137, op := Op.extract (Operand.tmp 125) 0, type := 2, pos := "law.go:138", after := #[{ on := 11, ground := Ground.data }], guard := none }) (v := ?vv12_11) rfl (by kernel_rfl) (by kernel_rfl) (by kernel_rfl) (fun _ _ _ h => h) (Or.inl ⟨by rfl, ?hy12_11⟩) hE.out.1 ?rest12_11
                  case hy12_11 =>
                    intro w hSw
                    go_simp
                    try with_reducible rfl
                  try simp only [Act.put, List.setIfInBounds_toArray, List.set_cons_zero, List.set_cons_succ]
                  refine wpAnyH_take (i := 13) (oi := { dst := some 138, op := Op.extract (Operand.tmp 125) 1, type := 4, pos := "law.go:138", after := #[{ on := 11, ground := Ground.data }, { on := 15, ground := Ground.gcOnly Departure.lateStores }], guard := none }) (v := ?vv13_12) rfl (by kernel_rfl) (by kernel_rfl) (by kernel_rfl) (fun _ _ _ h => h) (Or.inl ⟨by rfl, ?hy13_12⟩) hE.out.1 ?rest13_12
                  case hy13_12 =>
                    intro w hSw
                    go_simp
                    try with_reducible rfl
                  try simp only [Act.put, List.setIfInBounds_toArray, List.set_cons_zero, List.set_cons_succ]
                  refine wpAnyH_take (i := 14) (oi := { dst := some 139, op := Op.extract (Operand.tmp 125) 2, type := 24, pos := "law.go:138", after := #[{ on := 11, ground := Ground.data }, { on := 16, ground := Ground.gcOnly Departure.lateStores }], guard := none }) (v := ?vv14_13) rfl (by kernel_rfl) (by kernel_rfl) (by kernel_rfl) (fun _ _ _ h => h) (Or.inl ⟨by rfl, ?hy14_13⟩) hE.out.1 ?rest14_13
                  case hy14_13 =>
                    intro w hSw
                    go_simp
                    try with_reducible rfl
                  try simp only [Act.put, List.setIfInBounds_toArray, List.set_cons_zero, List.set_cons_succ]
                  refine wpAnyH_take (i := 15) (oi := { dst := some 24, op := Op.assign (Operand.tmp 137), type := 2, pos := "law.go:138", after := #[{ on := 12, ground := Ground.data }, { on := 10, ground := Ground.chain }, { on := 0, ground := Ground.phase }, { on := 1, ground := Ground.phase }, { on := 2, ground := Ground.phase }, { on := 3, ground := Ground.phase }, { on := 4, ground := Ground.phase }, { on := 5, ground := Ground.phase }, { on := 6, ground := Ground.phase }, { on := 7, ground := Ground.phase }, { on := 8, ground := Ground.phase }, { on := 9, ground := Ground.phase }, { on := 10, ground := Ground.phase }, { on := 11, ground := Ground.phase }, { on := 12, ground := Ground.phase }, { on := 13, ground := Ground.textOnly Departure.lateStores }, { on := 14, ground := Ground.textOnly Departure.lateStores }], guard := none }) (v := ?vv15_14) rfl (by kernel_rfl) (by kernel_rfl) (by kernel_rfl) (fun _ _ _ h => h) (Or.inl ⟨by rfl, ?hy15_14⟩) hE.out.1 ?rest15_14
                  case hy15_14 =>
                    intro w hSw
                    go_simp
                    try with_reducible rfl
                  try simp only [Act.put, List.setIfInBounds_toArray, List.set_cons_zero, List.set_cons_succ]
                  refine wpAnyH_take (i := 16) (oi := { dst := some 25, op := Op.assign (Operand.tmp 138), type := 4, pos := "law.go:138", after := #[{ on := 13, ground := Ground.data }, { on := 15, ground := Ground.chain }, { on := 0, ground := Ground.phase }, { on := 1, ground := Ground.phase }, { on := 2, ground := Ground.phase }, { on := 3, ground := Ground.phase }, { on := 4, ground := Ground.phase }, { on := 5, ground := Ground.phase }, { on := 6, ground := Ground.phase }, { on := 7, ground := Ground.phase }, { on := 8, ground := Ground.phase }, { on := 9, ground := Ground.phase }, { on := 10, ground := Ground.phase }, { on := 11, ground := Ground.phase }, { on := 12, ground := Ground.phase }, { on := 13, ground := Ground.phase }, { on := 14, ground := Ground.textOnly Departure.lateStores }, { on := 15, ground := Ground.phase }], guard := none }) (v := ?vv16_15) rfl (by kernel_rfl) (by kernel_rfl) (by kernel_rfl) (fun _ _ _ h => h) (Or.inl ⟨by rfl, ?hy16_15⟩) hE.out.1 ?rest16_15
                  case hy16_15 =>
                    intro w hSw
                    go_simp
                    try with_reducible rfl
                  try simp only [Act.put, List.setIfInBounds_toArray, List.set_cons_zero, List.set_cons_succ]
                  refine wpAnyH_take (i := 17) (oi := { dst := some 26, op := Op.assign (Operand.tmp 139), type := 24, pos := "law.go:138", after := #[{ on := 14, ground := Ground.data }, { on := 16, ground := Ground.chain }, { on := 0, ground := Ground.phase }, { on := 1, ground := Ground.phase }, { on := 2, ground := Ground.phase }, { on := 3, ground := Ground.phase }, { on := 4, ground := Ground.phase }, { on := 5, ground := Ground.phase }, { on := 6, ground := Ground.phase }, { on := 7, ground := Ground.phase }, { on := 8, ground := Ground.phase }, { on := 9, ground := Ground.phase }, { on := 10, ground := Ground.phase }, { on := 11, ground := Ground.phase }, { on := 12, ground := Ground.phase }, { on := 13, ground := Ground.phase }, { on := 14, ground := Ground.phase }, { on := 15, ground := Ground.phase }, { on := 16, ground := Ground.phase }], guard := none }) (v := ?vv17_16) rfl (by kernel_rfl) (by kernel_rfl) (by kernel_rfl) (fun _ _ _ h => h) (Or.inl ⟨by rfl, ?hy17_16⟩) hE.out.1 ?rest17_16
                  case hy17_16 =>
                    intro w hSw
                    go_simp
                    try with_reducible rfl
                  try simp only [Act.put, List.setIfInBounds_toArray, List.set_cons_zero, List.set_cons_succ]
                  refine wpAnyH_done (by kernel_rfl) ?_ _
                  clear hS0 hVd
                  obtain ⟨-, hE0, hE1⟩ := hE.out
                  go_upto_region 35 with fail
                  cases over with
                  | false =>
                    have hnx := Lib.hid (hE0 rfl)
                    clear hE hE0 hE1
                    go_wp2_with fail
                    go_roundw
                    case rel => (repeat apply Exists.intro); first | exact ⟨⟨hgo'.out.1, hgo'.out.2, by go_num, rfl, hnx⟩, rfl⟩ | exact ⟨hgo'.out.1, hgo'.out.2, by go_num, rfl, hnx, rfl⟩ | exact ⟨hgo'.out.1, hgo'.out.2, by go_num, rfl, hnx⟩
                    case measure => have := hgo'.out.1; simp [intOf]; omega
                  | true =>
                    obtain ⟨hg1, hnx0, hfl⟩ := hE1 rfl
                    have hnx := Lib.hid hnx0
                    have hfl' := Lib.hid hfl
                    have hge : ¬ told < g := by omega
                    clear hE hE0 hE1 hnx0 hfl hg1
                    go_wp2_with (go_at_call 26; refine hfl'.out.mono ?_; rintro e w4 ⟨zf, rfl, hzf, hw4⟩; subst hw4; have hzf2 : ¬ zf < told := by (have := hzf.out; omega))
                    go_roundw
                    case rel => (repeat apply Exists.intro); first | exact ⟨⟨hgo'.out.1, hgo'.out.2, by go_num, rfl, hnx⟩, rfl⟩ | exact ⟨hgo'.out.1, hgo'.out.2, by go_num, rfl, hnx, rfl⟩ | exact ⟨hgo'.out.1, hgo'.out.2, by go_num, rfl, hnx⟩
                    case measure => have := hgo'.out.1; simp [intOf]; omega
          · have haw : Hid (Calls Try.prog 9 #[] wr fun e w' => e = .returned (.bool true) ∧ Below w.heap.size w w') := by
              have hb := hM.out.b
              exact (awake_any12 wr).mono fun e w' hh => ⟨hh.1, hb.trans (hh.2.mono hb.size)⟩
            have hgn := Lib.hid hgo
            clear hM
            by_cases hil2 : i < len2
            · have hz : (i : Int) < (len2 : Int) := by omega
              have hz2 : ¬ (i : Int) < 1000 := by have := hgn.out; omega
              clear hgo
              go_wp2_with (go_at_call 9; refine haw.out.mono ?_; rintro e w' ⟨rfl, hb5⟩; have hb5' := Lib.hid hb5; clear hb5)
              go_ret
              exact ⟨rfl, hb5'.out⟩
            · have hz : ¬ (i : Int) < (len2 : Int) := by omega
              clear hgo
              go_wp2_with (go_at_call 9; refine haw.out.mono ?_; rintro e w' ⟨rfl, hb5⟩; have hb5' := Lib.hid hb5; clear hb5)
              go_ret
              exact ⟨rfl, hb5'.out⟩
end Go.Proofs.Ytobfjfmaicmkdaa
