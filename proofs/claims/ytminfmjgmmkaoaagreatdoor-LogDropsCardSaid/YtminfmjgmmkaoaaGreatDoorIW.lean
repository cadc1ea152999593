/-
  The law of what is dropped.
-/
import Derived.Test.YtminfmjgmmkaoaaGreatDoorIV
namespace Go.Proofs.YtminfmjgmmkaoaaGreatDoor
open Go.ChangeShapes Go.WideShapes Go.ChangeAt Go.Shelf Go.RowKit Go.Lib Go.Sort Go.Deep
set_option linter.unusedVariables false
set_option maxRecDepth 4000
set_option linter.unusedSimpArgs false

/-- Events 0 to j - 1 are done. -/
def DoneI (b : World) (lb : Nat) (v : Wv) (W : Wd) (every : Int) (bs : List Int) (uid : Nat → Int) (a : Option Addr) (n c j : Nat) (w : World) : Prop :=
  ∃ sv ss, LogP b w lb v W every sv ss (Pl.run W bs uid 0 j Pl.zero) j ∧ AheadOf bs j ss ∧ EvsAt w a n c bs
theorem DoneI.next {b w w' : World} {lb : Nat} {v : Wv} {W : Wd} {every : Int} {sv sv' : Value} {ss ss' : List Sth} {bs : List Int} {uid : Nat → Int} {a : Option Addr} {n c j : Nat} (h : LogP b w lb v W every sv ss (Pl.run W bs uid 0 j Pl.zero) j) (he : EvsAt w a n c bs)
    (h' : LogP b w' lb v W every sv' ss' ((Pl.run W bs uid 0 j Pl.zero).more W (evM bs j) (uid j)) (j + 1)) (ha : AheadOf bs (j + 1) ss') (hk : KeptOff (LOwn lb sv ss) w w') : DoneI b lb v W every bs uid a n c (j + 1) w' :=
  ⟨sv', ss', by rw [Pl.run_succ, Nat.zero_add]; exact h', ha, he.kept hk (h.1.offV he.2 (by decide) (by decide) (by decide))⟩
set_option maxHeartbeats 16000000 in
theorem drops_go {w : World} {v : Wv} {W : Wd} {t e : Int} {eb : Addr} {ka : Option Addr} {kl kc : Nat} {bs : List Int} (he : 0 ≤ e ∧ e ≤ 255) (ht : 0 ≤ t ∧ t ≤ 255) (hW : Wds w v W) (hE : ErrIs w eb) (hT : ErrT w) (hc : checkW W = 0) (hK : Byts w ka kl kc bs) :
    Calls Tryz.prog 6 #[v.val W, .slice ka kl kc, .int .u8 t, .int .u8 e] w fun e w' => e = .returned (.bool true) ∧ Below w.heap.size w w' := by
  have mixed := mixed
  obtain ⟨he0, he1⟩ := he
  have hk0 : 0 ≤ e.tmod 20 ∧ e.tmod 20 < 20 := by rw [Int.tmod_eq_emod_of_nonneg he0]; omega
  obtain ⟨k, hk⟩ : ∃ k, e.tmod 20 = k := ⟨_, rfl⟩
  rw [hk] at hk0
  obtain ⟨hk1, hk2⟩ := hk0
  have hb0 := fun (o1 : Obj) => Lib.hid ((Below.refl _ w).alloc (Nat.le_refl _) o1)
  have hnew := fun (o1 : Obj) => lgNew_ok (every := 1 + k) (hW.below (hb0 o1).out) (hE.below (hb0 o1).out) hc (by omega)
  have hev := Lib.hid (fun (w' : World) (hb : Below w.heap.size w w') => l10events_any (hK.below hb))
  have hbs : Hid (∀ x ∈ bs, 0 ≤ x ∧ x ≤ 255) := Lib.hid (fun x hx => by have := hK.2.2.2.1 x hx; omega)
  have hE' := Lib.hid hE
  have hT' := Lib.hid hT
  have hc' := Lib.hid hc
  have hn60 : min kl 60 ≤ 60 := Nat.min_le_right _ _
  have ht' := Lib.hid ht
  obtain ⟨ht0, ht1⟩ := ht
  clear hW hE hT hc hK
  simp only [Wv.val, Sta.val, Sta.cells, Sta.zero, List.map_cons, List.map_nil, List.cons_append, List.nil_append] at *
  go_enter Tryz.func6, Tryz.ntmps6
  go_wp2_with fail
  refine (hnew _).mono ?_
  rintro e w1 ⟨lb, rfl, hq1⟩
  obtain ⟨v1, sv1, ss1, hL1, hA1, -⟩ := hq1.out.logP (b := w) (hb0 _).out (by omega)
  have hL1' := Lib.hid hL1
  have hA1' := Lib.hid (hA1 bs)
  have hev1 := hev.out w1 hL1.1.base
  clear hnew hb0 hq1 hev hL1 hA1
  go_wp2_with fail
  refine hev1.mono ?_
  rintro e w2 ⟨a, c, rfl, hq2⟩
  have hst : Hid (DoneI w lb v1 W (1 + k) bs (fun _ => 0) a (min kl 60) c 0 w2) := Lib.hid ⟨sv1, ss1, ⟨hL1'.out.1.below hq2.out.2, hL1'.out.2⟩, hA1'.out, EvsAt.of_own hq2.out.1⟩
  clear hev1 hq2 hL1' hA1'
  generalize min kl 60 = n at *
  go_wp2_with fail
  go_loopw [12] (fun i wr => ∃ j : Nat, j ≤ n ∧ i = .int .i64 (j : Int) ∧ Hid (DoneI w lb v1 W (1 + k) bs (fun _ => 0) a n c j wr)) (fun i _ => n - (intOf i).toNat)
  case atStart => exact ⟨0, Nat.zero_le _, rfl, hst⟩
  case round =>
    clear hst
    obtain ⟨j, hj, rfl, hI⟩ := hrel
    by_cases hlt : j < n
    · obtain ⟨sv, ss, hLP, hAh, hEv⟩ := hI.out
      have hdo := hLP.doStep hbs.out (by omega) hE'.out hT'.out hc'.out (i := j) (by omega) hAh (uid := 0) (by omega)
      have hdo' := Lib.hid hdo
      obtain ⟨g, o, rfl, hms⟩ : ∃ g o, a = some ⟨g, o, none⟩ ∧ ∀ i, i < n → MsgAt wr g (o + i * 7) ((evs bs n).getD i default) := by
        rcases hEv.1.2.2.2 with h0 | h1
        · omega
        · exact h1
      have hm := hms j hlt
      rw [evs_get hlt] at hm
      obtain ⟨-, x0, x1, x2, x3, x4, x5, x6⟩ := hm
      have hval : (evM bs j).val = .agg #[.int .i64 (evT bs (j + 1)), .int .i64 (-1), .int .i64 (j : Int), .int .i64 0, .int .i64 (j : Int), .int .i64 (j : Int), .bool false] := rfl
      rw [hval] at hdo
      simp only [evM] at x0 x1 x2 x3 x4 x5 x6
      have hEv' := Lib.hid hEv
      have hLP' := Lib.hid hLP
      have hj0 : (0 : Int) ≤ (j : Int) := by omega
      have hj1 : (j : Int) < (n : Int) := by omega
      have a3 : IntKind.i64.wrap ((j : Int) + 1) = (j : Int) + 1 := IntWalk.i64_in _ (by omega)
      clear hI hLP hAh hEv hms hval hdo'
      generalize evT bs (j + 1) = z at *
      go_wp2_with fail
      refine hdo.mono ?_
      rintro e w3 ⟨⟨u, rfl⟩, hq⟩
      obtain ⟨sv', ss', h1, h2, h3, -⟩ := hq.out
      have hnx : Hid (DoneI w lb v1 W (1 + k) bs (fun _ => 0) (some ⟨g, o, none⟩) n c (j + 1) w3) := Lib.hid (DoneI.next hLP'.out hEv'.out h1 h2 h3)
      clear hdo hq x0 x1 x2 x3 x4 x5 x6 h1 h2 h3
      go_wp2
      go_roundw
      case rel => exact ⟨j + 1, by omega, by go_num, hnx⟩
      case measure => simp [intOf]; omega
    · obtain rfl : j = n := by omega
      obtain ⟨sv, ss, hLP, hAh, hEv⟩ := hI.out
      clear hI hEv hAh
      generalize Pl.run W bs (fun _ => 0) 0 j Pl.zero = PL at *
      obtain ⟨es, st, stuck⟩ := PL
      obtain ⟨hL, hes⟩ := hLP
      simp only at hL hes
      have hL0 := Lib.hid hL
      have hall := lgAll_any hE'.out hT'.out hL.base hL.of (hL.may (by omega))
      have htl := toldAll_length W ss
      rw [hes] at hall htl
      rw [← htl] at hall
      have hes' := Lib.hid hes
      have htl' := Lib.hid htl
      have hnl : ¬ (j : Int) < (j : Int) := by omega
      clear hes htl hL
      go_wp2_with fail
      refine hall.mono ?_
      rintro e w3 ⟨a0, c0, rfl, hq3⟩
      obtain ⟨LA, hA1, hA2, hA3, -⟩ := hq3.out
      have hA1' := Lib.hid hA1
      have hA2' := Lib.hid hA2
      have hL3 := Lib.hid (hL0.out.below hA3)
      have hst3 := lgState_any hL3.out.of
      clear hall hq3 hA1 hA2 hA3 hL0
      have hls : (encSt st).length = 10 := rfl
      have hcs : Hid ((encSt st).toArray.size = 10 ∧ (encSt st).toArray.all (·.oneCell') = true) := Lib.hid ⟨rfl, encSt_one st⟩
      have hneq : ∀ w, Sem.run Tryz.prog (binOp .neq 34 (.agg (encSt st).toArray) (.agg (encSt st).toArray)) w = .ok (.bool false) w := fun w => neqS_same st w
      have hcst : ∃ cst, encSt st = cst := ⟨_, rfl⟩
      obtain ⟨cst, hcst0⟩ := hcst
      rw [hcst0] at hls hcs hneq hst3
      have hcst := Lib.hid hcst0
      clear hcst0
      go_wp2_with fail
      refine hst3.mono ?_
      rintro e w4 ⟨rfl, hb4⟩
      have hA4 := Lib.hid (hA2'.out.below hb4)
      have hL4 := Lib.hid (hL3.out.below hb4)
      have hA := heap_alloc_new w4 (.cells z10 34)
      have hC := Lib.hid ((Below.refl _ w4).alloc (Nat.le_refl _) (.cells z10 34))
      simp only [z10] at hA hC
      clear hst3 hb4 hA2' hL3
      go_upto_region 11 with (refine wpList_store_row rfl 34 (.tmp 14) (.tmp 53) rfl w4.heap.size cst.toArray rfl rfl 34 _ hA (by rw [hcs.out.1]; exact infoS10) (by rw [hcs.out.1]; rfl) hcs.out.2 ?_)
      have hS5 := Lib.hid (setRow_heap (new := cst.toArray) hA)
      have hB5 := Lib.hid (below_row hC.out (g := w4.heap.size) (Nat.le_refl _) cst.toArray)
      clear hA hC
      generalize (w4.alloc (Obj.cells _ 34)).setRow w4.heap.size cst.toArray = w5 at *
      have hA5 := Lib.hid (hA4.out.below hB5.out)
      have hL5 := Lib.hid (hL4.out.below hB5.out)
      generalize hsb : w4.heap.size = sb at *
      clear hsb hA4 hL4 hB5
      have hdrop := lgDrop_any hE'.out hT'.out hL5.out (by omega) t
      rw [hes'.out] at hdrop
      have hdle := dropN_le es t
      obtain ⟨dn, hdn0⟩ : ∃ dn, dropN es t = dn := ⟨_, rfl⟩
      rw [hdn0] at hdrop hdle
      have hdn := Lib.hid hdn0
      clear hdn0
      have a4 : IntKind.i64.wrap t = t := IntWalk.i64_in _ (by omega)
      go_wp2_with fail
      refine hdrop.mono ?_
      rintro e w6 ⟨a1, c1, rfl, hq6⟩
      obtain ⟨⟨LG, hG1, hG2, hG3⟩, hk6, sv6, ss6, hL6, ht6, -⟩ := hq6.out
      rw [hes'.out] at hG1 ht6
      have hS6 := Lib.hid ((hk6.block sb (Array.getElem?_eq_some_iff.1 hS5.out).1 (hL5.out.off hS5.out (by decide) (by decide) (by decide))).trans hS5.out)
      have hA6 := Lib.hid (hA5.out.kept hk6 (hL5.out.offE hA5.out))
      have hG1' := Lib.hid hG1
      have hG6 := Lib.hid hG2
      have hL6' := Lib.hid hL6
      have ht6' := Lib.hid ht6
      have hall6 := lgAll_any hE'.out hT'.out hL6.base hL6.of (hL6.may (by omega))
      rw [ht6] at hall6
      have htl6 : total ss6 = es.length - dn := by rw [← toldAll_length W ss6, ht6, List.length_drop]
      rw [htl6] at hall6
      obtain ⟨m, hm⟩ : ∃ m, es.length = dn + m := ⟨es.length - dn, by omega⟩
      have hm2 : es.length - dn = m := by omega
      rw [hm2] at hall6
      have hlA : LA.length = dn + m := by rw [← hm, ← hA1'.out]; simp
      have hlG : LG.length = dn := by
        have := congrArg List.length hG1
        rw [List.length_map, List.length_take] at this
        omega
      have hes60 : dn + m ≤ 60 := by
        have := hL6.cnt
        have h2 := hL5.out.cnt
        have := htl'.out
        omega
      have hm' := Lib.hid hm
      have htl6' := Lib.hid htl6
      have hm2' := Lib.hid hm2
      clear hdrop hq6 hG1 hG2 hG3 hk6 hL6 ht6 hS5 hA5 hL5 htl6 htl'
      rw [hm] at hA6 ⊢
      clear hm hm2
      go_wp2_with fail
      refine hall6.mono ?_
      rintro e w7 ⟨a2, c2, rfl, hq7⟩
      obtain ⟨LL, hF1, hF2, hF3, -⟩ := hq7.out
      have hS7 := Lib.hid ((hF3.block sb (Array.getElem?_eq_some_iff.1 hS6.out).1).trans hS6.out)
      have hA7 := Lib.hid (hA6.out.below hF3)
      have hG7 := Lib.hid (hG6.out.below hF3)
      have hL7 := Lib.hid (hL6'.out.below hF3)
      have hF7 := Lib.hid hF2
      have hF1' := Lib.hid hF1
      have hlF : LL.length = m := by
        have := congrArg List.length hF1
        rw [List.length_map, List.length_drop, hm'.out] at this
        omega
      have hlA' := Lib.hid hlA
      have hlG' := Lib.hid hlG
      have hlF' := Lib.hid hlF
      clear hall6 hq7 hF1 hF2 hF3 hS6 hA6 hG6 hL6' hlA hlG hlF
      obtain ⟨X1, hX1⟩ : ∃ X, sliced a0 0 dn c0 19 = X := ⟨_, rfl⟩
      obtain ⟨X2, hX2⟩ : ∃ X, sliced a0 dn (dn + m) c0 19 = X := ⟨_, rfl⟩
      have hcap : dn + m ≤ c0 := by
        obtain ⟨a9, c9, h9, h8⟩ := RowAt.shape hA7.out.1
        rw [hlA'.out] at h8 h9
        simp at h9
        omega
      have hE1 : Hid (∀ w', Below w7.heap.size w7 w' → Calls Tryz.prog 16 #[X1, .slice a1 dn c1] w' fun e w2 => e = .returned (.bool true) ∧ Below w'.heap.size w' w2) := Lib.hid (fun w' h => by
        rw [← hX1]
        refine l10entries_same ((hA7.out.below h).sliced (Nat.zero_le _) (by omega)) (hG7.out.below h) ?_ ?_
        · rw [hG1'.out, ← hA1'.out, Nat.sub_zero, List.drop_zero, List.map_take]
        · have := hlA'.out
          rw [List.length_take, List.length_drop]
          omega)
      have hE2 : Hid (∀ w', Below w7.heap.size w7 w' → Calls Tryz.prog 16 #[X2, .slice a2 m c2] w' fun e w2 => e = .returned (.bool true) ∧ Below w'.heap.size w' w2) := Lib.hid (fun w' h => by
        rw [← hX2]
        refine l10entries_same ((hA7.out.below h).sliced (Nat.le_add_right _ _) (Nat.le_refl _)) (hF7.out.below h) ?_ ?_
        · rw [hF1'.out, ← hA1'.out, List.map_take, List.map_drop, List.take_of_length_le]
          have := hlA'.out
          rw [List.length_drop, List.length_map]
          omega
        · have := hlA'.out
          rw [List.length_take, List.length_drop]
          omega)
      have hSt : Hid (∀ w', Below w7.heap.size w7 w' → Calls Tryz.prog 13 #[.pointer (some ⟨lb, 0, none⟩)] w' fun e w2 => e = .returned (.agg cst.toArray) ∧ Below w'.heap.size w' w2) := Lib.hid (fun w' h => by rw [← hcst.out]; exact lgState_any (hL7.out.below h).of)
      have hsr : Hid (∀ w', Below w7.heap.size w7 w' → w'.rangeAt sb 0 cst) := Lib.hid (fun w' h => by
        have := range_block ((h.block _ (Array.getElem?_eq_some_iff.1 hS7.out).1).trans hS7.out)
        simpa using this)
      have a5 : IntKind.i64.wrap ((dn : Int) + (m : Int)) = (dn : Int) + (m : Int) := IntWalk.i64_in _ (by omega)
      have a6 : ((dn + m : Nat) : Int) = (dn : Int) + (m : Int) := by omega
      have hX1' := Lib.hid hX1
      have hX2' := Lib.hid hX2
      clear hX1 hX2
      go_upto_region 13 with (fail)
      refine wp_region_held_drew (S := fun w' => Below w7.heap.size w7 w') (by kernel_rfl) (Below.refl _ w7).drew (fun hHeld => ?_)
      clear hHeld
      have hHd : Below w7.heap.size w7 w7.drew := (Below.refl _ w7).drew
      refine wpAnyH_take (i := 0) (oi := { dst := some 60, op := Op.move (Operand.tmp 15), type := 47, pos := "law.go:225", after := #[], guard := none }) (v := ?vv0_1) rfl (by kernel_rfl) (by kernel_rfl) (by kernel_rfl) (fun _ _ _ h => h) (Or.inl ⟨by rfl, ?hy0_1⟩) hHd ?rest0_1
      case hy0_1 =>
        intro w hSw
        go_simp
        try with_reducible rfl
      try simp only [Act.put, List.setIfInBounds_toArray, List.set_cons_zero, List.set_cons_succ]
      refine wpAnyH_take (i := 2) (oi := { dst := some 62, op := Op.move (Operand.tmp 16), type := 47, pos := "law.go:225", after := #[], guard := none }) (v := ?vv2_2) rfl (by kernel_rfl) (by kernel_rfl) (by kernel_rfl) (fun _ _ _ h => h) (Or.inl ⟨by rfl, ?hy2_2⟩) hHd ?rest2_2
      case hy2_2 =>
        intro w hSw
        go_simp
        try with_reducible rfl
      try simp only [Act.put, List.setIfInBounds_toArray, List.set_cons_zero, List.set_cons_succ]
      refine wpAnyH_take (i := 5) (oi := { dst := some 65, op := Op.move (Operand.tmp 13), type := 47, pos := "law.go:225", after := #[], guard := none }) (v := ?vv5_3) rfl (by kernel_rfl) (by kernel_rfl) (by kernel_rfl) (fun _ _ _ h => h) (Or.inl ⟨by rfl, ?hy5_3⟩) hHd ?rest5_3
      case hy5_3 =>
        intro w hSw
        go_simp
        try with_reducible rfl
      try simp only [Act.put, List.setIfInBounds_toArray, List.set_cons_zero, List.set_cons_succ]
      refine wpAnyH_take (i := 1) (oi := { dst := some 61, op := Op.call { callee := Callee.builtin Builtin.len, args := #[Operand.tmp 60], argTypes := #[47] }, type := 3, pos := "law.go:225", after := #[{ on := 0, ground := Ground.data }], guard := none }) (v := ?vv1_4) rfl (by kernel_rfl) (by kernel_rfl) (by kernel_rfl) (fun _ _ _ h => h) (Or.inl ⟨by rfl, ?hy1_4⟩) hHd ?rest1_4
      case hy1_4 =>
        intro w hSw
        go_simp
        try with_reducible rfl
      try simp only [Act.put, List.setIfInBounds_toArray, List.set_cons_zero, List.set_cons_succ]
      refine wpAnyH_take (i := 3) (oi := { dst := some 63, op := Op.call { callee := Callee.builtin Builtin.len, args := #[Operand.tmp 62], argTypes := #[47] }, type := 3, pos := "law.go:225", after := #[{ on := 2, ground := Ground.data }], guard := none }) (v := ?vv3_5) rfl (by kernel_rfl) (by kernel_rfl) (by kernel_rfl) (fun _ _ _ h => h) (Or.inl ⟨by rfl, ?hy3_5⟩) hHd ?rest3_5
      case hy3_5 =>
        intro w hSw
        go_simp
        try with_reducible rfl
      try simp only [Act.put, List.setIfInBounds_toArray, List.set_cons_zero, List.set_cons_succ]
      refine wpAnyH_take (i := 6) (oi := { dst := some 66, op := Op.call { callee := Callee.builtin Builtin.len, args := #[Operand.tmp 65], argTypes := #[47] }, type := 3, pos := "law.go:225", after := #[{ on := 5, ground := Ground.data }], guard := none }) (v := ?vv6_6) rfl (by kernel_rfl) (by kernel_rfl) (by kernel_rfl) (fun _ _ _ h => h) (Or.inl ⟨by rfl, ?hy6_6⟩) hHd ?rest6_6
      case hy6_6 =>
        intro w hSw
        go_simp
        try with_reducible rfl
      try simp only [Act.put, List.setIfInBounds_toArray, List.set_cons_zero, List.set_cons_succ]
      refine wpAnyH_take (i := 4) (oi := { dst := some 64, op := Op.binOp BinOp.add 3 (Operand.tmp 61) (Operand.tmp 63) 3, type := 3, pos := "law.go:225", after := #[{ on := 1, ground := Ground.data }, { on := 3, ground := Ground.data }], guard := none }) (v := ?vv4_7) rfl (by kernel_rfl) (by kernel_rfl) (by kernel_rfl) (fun _ _ _ h => h) (Or.inl ⟨by rfl, ?hy4_7⟩) hHd ?rest4_7
      case hy4_7 =>
        intro w hSw
        go_simp
        try with_reducible rfl
      try simp only [Act.put, List.setIfInBounds_toArray, List.set_cons_zero, List.set_cons_succ]
      refine wpAnyH_take (i := 7) (oi := { dst := some 67, op := Op.binOp BinOp.neq 3 (Operand.tmp 64) (Operand.tmp 66) 3, type := 4, pos := "law.go:225", after := #[{ on := 4, ground := Ground.data }, { on := 6, ground := Ground.data }], guard := none }) (v := ?vv7_8) rfl (by kernel_rfl) (by kernel_rfl) (by kernel_rfl) (fun _ _ _ h => h) (Or.inl ⟨by rfl, ?hy7_8⟩) hHd ?rest7_8
      case hy7_8 =>
        intro w hSw
        go_simp
        try with_reducible rfl
      try simp only [Act.put, List.setIfInBounds_toArray, List.set_cons_zero, List.set_cons_succ]
      refine wpAnyH_take (i := 8) (oi := { dst := some 68, op := Op.move (Operand.tmp 67), type := 4, pos := "law.go:225", after := #[{ on := 7, ground := Ground.data }], guard := none }) (v := ?vv8_9) rfl (by kernel_rfl) (by kernel_rfl) (by kernel_rfl) (fun _ _ _ h => h) (Or.inl ⟨by rfl, ?hy8_9⟩) hHd ?rest8_9
      case hy8_9 =>
        intro w hSw
        go_simp
        try with_reducible rfl
      try simp only [Act.put, List.setIfInBounds_toArray, List.set_cons_zero, List.set_cons_succ]
      refine wpAnyH_take (i := 9) (oi := { dst := some 69, op := Op.move (Operand.tmp 9), type := 28, pos := "law.go:225", after := #[{ on := 8, ground := Ground.guard }], guard := some (8, false) }) (v := ?vv9_10) rfl (by kernel_rfl) (by kernel_rfl) (by kernel_rfl) (fun _ _ _ h => h) (Or.inl ⟨by rfl, ?hy9_10⟩) hHd ?rest9_10
      case hy9_10 =>
        intro w hSw
        go_simp
        try with_reducible rfl
      try simp only [Act.put, List.setIfInBounds_toArray, List.set_cons_zero, List.set_cons_succ]
      refine wpAnyH_take (i := 11) (oi := { dst := some 71, op := Op.load 34 (Operand.tmp 14), type := 34, pos := "law.go:225", after := #[{ on := 8, ground := Ground.guard }], guard := some (8, false) }) (v := .agg (cst).toArray) rfl (by kernel_rfl) (by kernel_rfl) (by kernel_rfl) (fun _ _ _ h => h) (yieldsIf_load_mid (by rfl) 34 (.tmp 14) (by rfl) sb 0 (by rfl) (cst) _ (fun w' h => hsr.out w' h) Tryz.underlying34 rfl (by rw [hls]; exact infoS10)) hHd ?_
      try simp only [Act.put, List.setIfInBounds_toArray, List.set_cons_zero, List.set_cons_succ]
      refine wpAnyH_ready (rs := [10]) (by kernel_rfl) (by simp) ?_
      refine AllReadyH.cons (o := { dst := some 70, op := Op.call { callee := Callee.value (Operand.func 13), args := #[Operand.tmp 69], argTypes := #[28] }, type := 34, pos := "law.go:225", after := #[{ on := 9, ground := Ground.data }, { on := 8, ground := Ground.chain }, { on := 8, ground := Ground.guard }], guard := some (8, false) }) rfl (fun K hK => ?_) AllReadyH.nil
      go_simp
      refine (hSt.out _ hHd).mono ?_
      rintro e w8 ⟨rfl, hb8⟩
      have hHw := hHd.trans (hb8.mono hHd.size)
      refine hK.out _ _ hHw (fun hHeld => ?_)
      clear hHeld hK K
      try simp only [Act.put, List.setIfInBounds_toArray, List.set_cons_zero, List.set_cons_succ]
      refine wpAnyH_take (i := 12) (oi := { dst := some 72, op := Op.binOp BinOp.neq 34 (Operand.tmp 70) (Operand.tmp 71) 34, type := 4, pos := "law.go:225", after := #[{ on := 10, ground := Ground.data }, { on := 11, ground := Ground.data }, { on := 8, ground := Ground.guard }], guard := some (8, false) }) (v := ?vv12_11) rfl (by kernel_rfl) (by kernel_rfl) (by kernel_rfl) (fun _ _ _ h => h) (Or.inl ⟨by rfl, ?hy12_11⟩) hHw ?rest12_11
      case hy12_11 =>
        intro w hSw
        go_simp
        try with_reducible rfl
      try simp only [Act.put, List.setIfInBounds_toArray, List.set_cons_zero, List.set_cons_succ]
      refine wpAnyH_take (i := 13) (oi := { dst := some 73, op := Op.pick (Operand.tmp 68) (Operand.const (Value.bool true)) (Operand.tmp 72), type := 4, pos := "law.go:225", after := #[{ on := 8, ground := Ground.data }, { on := 12, ground := Ground.data }], guard := none }) (v := ?vv13_12) rfl (by kernel_rfl) (by kernel_rfl) (by kernel_rfl) (fun _ _ _ h => h) (Or.inl ⟨by rfl, ?hy13_12⟩) hHw ?rest13_12
      case hy13_12 =>
        intro w hSw
        go_simp
        try with_reducible rfl
      try simp only [Act.put, List.setIfInBounds_toArray, List.set_cons_zero, List.set_cons_succ]
      refine wpAnyH_take (i := 14) (oi := { dst := some 74, op := Op.move (Operand.tmp 73), type := 4, pos := "law.go:225", after := #[{ on := 13, ground := Ground.data }, { on := 10, ground := Ground.chain }], guard := none }) (v := ?vv14_13) rfl (by kernel_rfl) (by kernel_rfl) (by kernel_rfl) (fun _ _ _ h => h) (Or.inl ⟨by rfl, ?hy14_13⟩) hHw ?rest14_13
      case hy14_13 =>
        intro w hSw
        go_simp
        try with_reducible rfl
      try simp only [Act.put, List.setIfInBounds_toArray, List.set_cons_zero, List.set_cons_succ]
      refine wpAnyH_take (i := 15) (oi := { dst := some 75, op := Op.move (Operand.tmp 13), type := 47, pos := "law.go:225", after := #[{ on := 14, ground := Ground.guard }], guard := some (14, false) }) (v := ?vv15_14) rfl (by kernel_rfl) (by kernel_rfl) (by kernel_rfl) (fun _ _ _ h => h) (Or.inl ⟨by rfl, ?hy15_14⟩) hHw ?rest15_14
      case hy15_14 =>
        intro w hSw
        go_simp
        try with_reducible rfl
      try simp only [Act.put, List.setIfInBounds_toArray, List.set_cons_zero, List.set_cons_succ]
      refine wpAnyH_take (i := 16) (oi := { dst := some 76, op := Op.move (Operand.tmp 15), type := 47, pos := "law.go:225", after := #[{ on := 14, ground := Ground.guard }], guard := some (14, false) }) (v := ?vv16_15) rfl (by kernel_rfl) (by kernel_rfl) (by kernel_rfl) (fun _ _ _ h => h) (Or.inl ⟨by rfl, ?hy16_15⟩) hHw ?rest16_15
      case hy16_15 =>
        intro w hSw
        go_simp
        try with_reducible rfl
      try simp only [Act.put, List.setIfInBounds_toArray, List.set_cons_zero, List.set_cons_succ]
      refine wpAnyH_take (i := 19) (oi := { dst := some 79, op := Op.move (Operand.tmp 15), type := 47, pos := "law.go:225", after := #[{ on := 14, ground := Ground.guard }], guard := some (14, false) }) (v := ?vv19_16) rfl (by kernel_rfl) (by kernel_rfl) (by kernel_rfl) (fun _ _ _ h => h) (Or.inl ⟨by rfl, ?hy19_16⟩) hHw ?rest19_16
      case hy19_16 =>
        intro w hSw
        go_simp
        try with_reducible rfl
      try simp only [Act.put, List.setIfInBounds_toArray, List.set_cons_zero, List.set_cons_succ]
      refine wpAnyH_take (i := 17) (oi := { dst := some 77, op := Op.call { callee := Callee.builtin Builtin.len, args := #[Operand.tmp 76], argTypes := #[47] }, type := 3, pos := "law.go:225", after := #[{ on := 16, ground := Ground.data }, { on := 14, ground := Ground.guard }], guard := some (14, false) }) (v := ?vv17_17) rfl (by kernel_rfl) (by kernel_rfl) (by kernel_rfl) (fun _ _ _ h => h) (Or.inl ⟨by rfl, ?hy17_17⟩) hHw ?rest17_17
      case hy17_17 =>
        intro w hSw
        go_simp
        try with_reducible rfl
      try simp only [Act.put, List.setIfInBounds_toArray, List.set_cons_zero, List.set_cons_succ]
      refine wpAnyH_take (i := 18) (oi := { dst := some 78, op := Op.slice 47 (Operand.tmp 75) none (some (Operand.tmp 77)) none, type := 47, pos := "law.go:225", after := #[{ on := 15, ground := Ground.data }, { on := 17, ground := Ground.data }, { on := 14, ground := Ground.guard }], guard := some (14, false) }) (v := X1) rfl (by kernel_rfl) (by kernel_rfl) (by kernel_rfl) (fun _ _ _ h => h) (Or.inl ⟨by rfl, fun w' _ => by rw [← hX1'.out]; exact exec_slice_h rfl undEn (sizeEn w') rfl rfl (by omega)⟩) hHw ?_
      try simp only [Act.put, List.setIfInBounds_toArray, List.set_cons_zero, List.set_cons_succ]
      refine wpAnyH_ready (rs := [20]) (by kernel_rfl) (by simp) ?_
      refine AllReadyH.cons (o := { dst := some 80, op := Op.call { callee := Callee.value (Operand.func 16), args := #[Operand.tmp 78, Operand.tmp 79], argTypes := #[47, 47] }, type := 4, pos := "law.go:225", after := #[{ on := 18, ground := Ground.data }, { on := 19, ground := Ground.data }, { on := 14, ground := Ground.chain }, { on := 14, ground := Ground.guard }], guard := some (14, false) }) rfl (fun K hK => ?_) AllReadyH.nil
      go_simp
      refine (hE1.out _ hHw).mono ?_
      rintro e w9 ⟨rfl, hb9⟩
      have hHx := hHw.trans (hb9.mono hHw.size)
      refine hK.out _ _ hHx (fun hHeld => ?_)
      clear hHeld hK K
      try simp only [Act.put, List.setIfInBounds_toArray, List.set_cons_zero, List.set_cons_succ]
      refine wpAnyH_take (i := 21) (oi := { dst := some 81, op := Op.unOp UnOp.not 4 (Operand.tmp 80), type := 4, pos := "law.go:225", after := #[{ on := 20, ground := Ground.data }, { on := 14, ground := Ground.guard }], guard := some (14, false) }) (v := ?vv21_18) rfl (by kernel_rfl) (by kernel_rfl) (by kernel_rfl) (fun _ _ _ h => h) (Or.inl ⟨by rfl, ?hy21_18⟩) hHx ?rest21_18
      case hy21_18 =>
        intro w hSw
        go_simp
        try with_reducible rfl
      try simp only [Act.put, List.setIfInBounds_toArray, List.set_cons_zero, List.set_cons_succ]
      refine wpAnyH_take (i := 22) (oi := { dst := some 82, op := Op.pick (Operand.tmp 74) (Operand.const (Value.bool true)) (Operand.tmp 81), type := 4, pos := "law.go:225", after := #[{ on := 14, ground := Ground.data }, { on := 21, ground := Ground.data }], guard := none }) (v := ?vv22_19) rfl (by kernel_rfl) (by kernel_rfl) (by kernel_rfl) (fun _ _ _ h => h) (Or.inl ⟨by rfl, ?hy22_19⟩) hHx ?rest22_19
      case hy22_19 =>
        intro w hSw
        go_simp
        try with_reducible rfl
      try simp only [Act.put, List.setIfInBounds_toArray, List.set_cons_zero, List.set_cons_succ]
      refine wpAnyH_take (i := 23) (oi := { dst := some 83, op := Op.move (Operand.tmp 82), type := 4, pos := "law.go:225", after := #[{ on := 22, ground := Ground.data }, { on := 20, ground := Ground.chain }], guard := none }) (v := ?vv23_20) rfl (by kernel_rfl) (by kernel_rfl) (by kernel_rfl) (fun _ _ _ h => h) (Or.inl ⟨by rfl, ?hy23_20⟩) hHx ?rest23_20
      case hy23_20 =>
        intro w hSw
        go_simp
        try with_reducible rfl
      try simp only [Act.put, List.setIfInBounds_toArray, List.set_cons_zero, List.set_cons_succ]
      refine wpAnyH_take (i := 24) (oi := { dst := some 84, op := Op.move (Operand.tmp 13), type := 47, pos := "law.go:225", after := #[{ on := 23, ground := Ground.guard }], guard := some (23, false) }) (v := ?vv24_21) rfl (by kernel_rfl) (by kernel_rfl) (by kernel_rfl) (fun _ _ _ h => h) (Or.inl ⟨by rfl, ?hy24_21⟩) hHx ?rest24_21
      case hy24_21 =>
        intro w hSw
        go_simp
        try with_reducible rfl
      try simp only [Act.put, List.setIfInBounds_toArray, List.set_cons_zero, List.set_cons_succ]
      refine wpAnyH_take (i := 25) (oi := { dst := some 85, op := Op.move (Operand.tmp 15), type := 47, pos := "law.go:225", after := #[{ on := 23, ground := Ground.guard }], guard := some (23, false) }) (v := ?vv25_22) rfl (by kernel_rfl) (by kernel_rfl) (by kernel_rfl) (fun _ _ _ h => h) (Or.inl ⟨by rfl, ?hy25_22⟩) hHx ?rest25_22
      case hy25_22 =>
        intro w hSw
        go_simp
        try with_reducible rfl
      try simp only [Act.put, List.setIfInBounds_toArray, List.set_cons_zero, List.set_cons_succ]
      refine wpAnyH_take (i := 28) (oi := { dst := some 88, op := Op.move (Operand.tmp 16), type := 47, pos := "law.go:225", after := #[{ on := 23, ground := Ground.guard }], guard := some (23, false) }) (v := ?vv28_23) rfl (by kernel_rfl) (by kernel_rfl) (by kernel_rfl) (fun _ _ _ h => h) (Or.inl ⟨by rfl, ?hy28_23⟩) hHx ?rest28_23
      case hy28_23 =>
        intro w hSw
        go_simp
        try with_reducible rfl
      try simp only [Act.put, List.setIfInBounds_toArray, List.set_cons_zero, List.set_cons_succ]
      refine wpAnyH_take (i := 26) (oi := { dst := some 86, op := Op.call { callee := Callee.builtin Builtin.len, args := #[Operand.tmp 85], argTypes := #[47] }, type := 3, pos := "law.go:225", after := #[{ on := 25, ground := Ground.data }, { on := 23, ground := Ground.guard }], guard := some (23, false) }) (v := ?vv26_24) rfl (by kernel_rfl) (by kernel_rfl) (by kernel_rfl) (fun _ _ _ h => h) (Or.inl ⟨by rfl, ?hy26_24⟩) hHx ?rest26_24
      case hy26_24 =>
        intro w hSw
        go_simp
        try with_reducible rfl
      try simp only [Act.put, List.setIfInBounds_toArray, List.set_cons_zero, List.set_cons_succ]
      refine wpAnyH_take (i := 27) (oi := { dst := some 87, op := Op.slice 47 (Operand.tmp 84) (some (Operand.tmp 86)) none none, type := 47, pos := "law.go:225", after := #[{ on := 24, ground := Ground.data }, { on := 26, ground := Ground.data }, { on := 23, ground := Ground.guard }], guard := some (23, false) }) (v := X2) rfl (by kernel_rfl) (by kernel_rfl) (by kernel_rfl) (fun _ _ _ h => h) (Or.inl ⟨by rfl, fun w' _ => by rw [← hX2'.out]; exact exec_slice_l rfl undEn (sizeEn w') rfl rfl (by omega)⟩) hHx ?_
      try simp only [Act.put, List.setIfInBounds_toArray, List.set_cons_zero, List.set_cons_succ]
      refine wpAnyH_ready (rs := [29]) (by kernel_rfl) (by simp) ?_
      refine AllReadyH.cons (o := { dst := some 89, op := Op.call { callee := Callee.value (Operand.func 16), args := #[Operand.tmp 87, Operand.tmp 88], argTypes := #[47, 47] }, type := 4, pos := "law.go:225", after := #[{ on := 27, ground := Ground.data }, { on := 28, ground := Ground.data }, { on := 23, ground := Ground.chain }, { on := 23, ground := Ground.guard }], guard := some (23, false) }) rfl (fun K hK => ?_) AllReadyH.nil
      go_simp
      refine (hE2.out _ hHx).mono ?_
      rintro e w10 ⟨rfl, hb10⟩
      have hHy := hHx.trans (hb10.mono hHx.size)
      refine hK.out _ _ hHy (fun hHeld => ?_)
      clear hHeld hK K
      try simp only [Act.put, List.setIfInBounds_toArray, List.set_cons_zero, List.set_cons_succ]
      refine wpAnyH_take (i := 30) (oi := { dst := some 90, op := Op.unOp UnOp.not 4 (Operand.tmp 89), type := 4, pos := "law.go:225", after := #[{ on := 29, ground := Ground.data }, { on := 23, ground := Ground.guard }], guard := some (23, false) }) (v := ?vv30_25) rfl (by kernel_rfl) (by kernel_rfl) (by kernel_rfl) (fun _ _ _ h => h) (Or.inl ⟨by rfl, ?hy30_25⟩) hHy ?rest30_25
      case hy30_25 =>
        intro w hSw
        go_simp
        try with_reducible rfl
      try simp only [Act.put, List.setIfInBounds_toArray, List.set_cons_zero, List.set_cons_succ]
      refine wpAnyH_take (i := 31) (oi := { dst := some 91, op := Op.pick (Operand.tmp 83) (Operand.const (Value.bool true)) (Operand.tmp 90), type := 4, pos := "law.go:225", after := #[{ on := 23, ground := Ground.data }, { on := 30, ground := Ground.data }], guard := none }) (v := ?vv31_26) rfl (by kernel_rfl) (by kernel_rfl) (by kernel_rfl) (fun _ _ _ h => h) (Or.inl ⟨by rfl, ?hy31_26⟩) hHy ?rest31_26
      case hy31_26 =>
        intro w hSw
        go_simp
        try with_reducible rfl
      try simp only [Act.put, List.setIfInBounds_toArray, List.set_cons_zero, List.set_cons_succ]
      refine wpAnyH_done (by kernel_rfl) ?_ _
      have hBy := Lib.hid hHy
      have hG10 := Lib.hid (hG7.out.below hHy)
      have hF10 := Lib.hid (hF7.out.below hHy)
      have hL10 := Lib.hid (hL7.out.below hHy)
      clear hHd hHw hHx hHy hb8 hb9 hb10 hS7 hA7 hG7 hF7 hL7 hE1 hE2 hSt hsr hX1' hX2' hneq hls hcs hcap
      have hgt : Hid (∀ i, i < dn → ∃ g off z, a1 = some ⟨g, off, none⟩ ∧ w10.cell? ⟨g, off + i * 19, none⟩ = some (.int .i64 z) ∧ z < t) := Lib.hid (fun i hi => by
        have hl : i < LG.length := by rw [hlG'.out]; exact hi
        obtain ⟨g, off, c9, h9, h8⟩ := hG10.out.form (by omega)
        simp at h9
        have h7 := h8 i LG[i] (List.getElem?_eq_getElem hl) 0 _ rfl
        refine ⟨g, off, LG[i].1.ev.k.t, h9.1, by rw [Nat.add_zero] at h7; exact h7, ?_⟩
        have h6 : LG[i].1 ∈ es.take dn := by rw [← hG1'.out]; exact List.mem_map_of_mem (List.getElem_mem hl)
        rw [← hdn.out] at h6
        exact dropN_take _ h6)
      have hlh : Hid (0 < m → ∃ g off z, a2 = some ⟨g, off, none⟩ ∧ w10.cell? ⟨g, off, none⟩ = some (.int .i64 z) ∧ t ≤ z) := Lib.hid (fun hm0 => by
        have hl : 0 < LL.length := by rw [hlF'.out]; exact hm0
        obtain ⟨g, off, c9, h9, h8⟩ := hF10.out.form hl
        simp at h9
        have h7 := h8 0 LL[0] (List.getElem?_eq_getElem hl) 0 _ rfl
        refine ⟨g, off, LL[0].1.ev.k.t, h9.1, by simpa using h7, ?_⟩
        have h6 : es.drop dn = LL[0].1 :: (LL.drop 1).map Prod.fst := by
          rw [← hF1'.out]
          cases LL with
          | nil => simp at hl
          | cons y r => simp
        rw [← hdn.out] at h6
        exact dropN_head h6)
      have hd2 := lgDrop_any hE'.out hT'.out hL10.out (by omega) t
      have hz0 : dropN (toldAll W ss6) t = 0 := by rw [ht6'.out, ← hdn.out]; exact dropN_again es t
      rw [hz0] at hd2
      have hd2' := Lib.hid hd2
      clear hd2 hz0 hG10 hF10 hL10 hBy
      go_wp2_with fail
      go_loop [17] (fun i => ∃ x : Nat, x ≤ dn ∧ i = .int .i64 (x : Int)) (fun i => dn - (intOf i).toNat)
      case atStart => exact ⟨0, Nat.zero_le _, rfl⟩
      case round =>
        obtain ⟨x, hx, rfl⟩ := hrel
        by_cases hxl : x < dn
        · obtain ⟨g, off, z, rfl, cz, hz⟩ := hgt.out x hxl
          have hx0 : (0 : Int) ≤ (x : Int) := by omega
          have hx1 : (x : Int) < (dn : Int) := by omega
          have hz' : ¬ t ≤ z := by omega
          have a7 : IntKind.i64.wrap ((x : Int) + 1) = (x : Int) + 1 := IntWalk.i64_in _ (by omega)
          go_wp2
          go_round
          case rel => exact ⟨x + 1, by omega, by go_num⟩
          case measure => simp [intOf]; omega
        · obtain rfl : x = dn := by omega
          have hxn : ¬ (x : Int) < (x : Int) := by omega
          have hd3 := hd2'.out
          have hfinal : Hid (∀ a3 c3 w11, DropQ w w10 lb v1 W (1 + k) sv6 ss6 st stuck (j + j) 0 a3 c3 w11 → ∃ (sa : Option Addr) (sl sc : Nat), 0 < sl ∧ w11.cell? ⟨lb, 5, none⟩ = some (.slice sa sl sc) ∧ Below w.heap.size w w11) := Lib.hid (fun a3 c3 w11 hq => by
            obtain ⟨-, -, sv7, ss7, hL11, -, -⟩ := hq
            obtain ⟨sa, sc, h1, -⟩ := RowAt.shape hL11.of.rd.abv
            exact ⟨sa, ss7.length, sc, hL11.of.pos, by rw [← h1]; exact hL11.of.x.c5, hL11.base⟩)
          clear hd2' hgt
          rcases Nat.eq_zero_or_pos m with hm0 | hm0
          · subst hm0
            clear hlh
            go_wp2_with fail
            refine hd3.mono ?_
            rintro e w11 ⟨a3, c3, rfl, hq11⟩
            obtain ⟨sa, sl, sc, hsl, c5, hB11⟩ := hfinal.out _ _ _ hq11.out
            have hB11' := Lib.hid hB11
            have hkp := lgKept_any c5 hsl
            have hsl1 : (1 : Int) ≤ (sl : Int) := by omega
            clear hd3 hfinal hq11 hB11 c5
            go_wp2_with (go_at_call 19; refine hkp.mono ?_; rintro e w12 ⟨rfl, rfl⟩)
            go_ret
            exact ⟨rfl, hB11'.out⟩
          · obtain ⟨g, off, z, rfl, cz, hz⟩ := hlh.out hm0
            clear hlh
            have hm1 : ((m : Int) == 0) = false := by simp; omega
            have hm3 : (0 : Int) < (m : Int) := by omega
            go_wp2_with fail
            refine hd3.mono ?_
            rintro e w11 ⟨a3, c3, rfl, hq11⟩
            obtain ⟨sa, sl, sc, hsl, c5, hB11⟩ := hfinal.out _ _ _ hq11.out
            have hB11' := Lib.hid hB11
            have hkp := lgKept_any c5 hsl
            have hsl1 : (1 : Int) ≤ (sl : Int) := by omega
            clear hd3 hfinal hq11 hB11 c5 cz
            go_wp2_with (go_at_call 19; refine hkp.mono ?_; rintro e w12 ⟨rfl, rfl⟩)
            go_ret
            exact ⟨rfl, hB11'.out⟩
theorem u8_rng {t : Int} (h : (Lit.int .u8 t).wf = true) : 0 ≤ t ∧ t ≤ 255 := by
  simp [Lit.wf, IntKind.min, IntKind.max, IntKind.signed, IntKind.bits] at h
  omega
theorem lawLogDrops {w : World} {v : Wv} {W : Wd} {eb : Addr} {ka : Option Addr} {kl kc : Nat} {bs : List Int} (hE : ErrIs w eb) (hT : ErrT w) (hW : Wds w v W) (t : Int) (ht : (Lit.int .u8 t).wf = true) (e : Int) (he : (Lit.int .u8 e).wf = true) (hK : Byts w ka kl kc bs) (hr : kl ≤ 140737488351232) (hn : NilP ka kl kc) :
    Calls Tryz.prog 6 #[v.val W, .slice ka kl kc, .int .u8 t, .int .u8 e] w fun e w' => e = .returned (.bool true) ∧ Below w.heap.size w w' := by
  have ht' : 0 ≤ t ∧ t ≤ 255 := by exact u8_rng ht
  have he' : 0 ≤ e ∧ e ≤ 255 := by exact u8_rng he
  by_cases hc : checkW W = 0
  · exact drops_go he' ht' hW hE hT hc hK
  · exact drops_bad he' hW hE hT hc
end Go.Proofs.YtminfmjgmmkaoaaGreatDoor
