/-
  The law of what is taken back and done again.
-/
import Derived.Test.YtminfmjgmmkaoaaGreatDoorJI
namespace Go.Proofs.YtminfmjgmmkaoaaGreatDoor
open Go.ChangeShapes Go.WideShapes Go.ChangeAt Go.Shelf Go.RowKit Go.Lib Go.Sort Go.Deep
set_option linter.unusedVariables false
set_option maxRecDepth 4000
set_option linter.unusedSimpArgs false

set_option maxHeartbeats 4000000 in
theorem again_bad {w : World} {v : Wv} {W : Wd} {t e : Int} {eb : Addr} {kv : Value} (he : 0 ≤ e ∧ e ≤ 255) (hW : Wds w v W) (hE : ErrIs w eb) (hT : ErrT w) (hc : checkW W ≠ 0) :
    Calls Tryz.prog 3 #[v.val W, kv, .int .u8 t, .int .u8 e] w fun e w' => e = .returned (.bool true) ∧ Below w.heap.size w w' := by
  obtain ⟨he0, he1⟩ := he
  have hk0 : 0 ≤ e.tmod 20 ∧ e.tmod 20 < 20 := by rw [Int.tmod_eq_emod_of_nonneg he0]; omega
  obtain ⟨k, hk⟩ : ∃ k, e.tmod 20 = k := ⟨_, rfl⟩
  rw [hk] at hk0
  obtain ⟨hk1, hk2⟩ := hk0
  have hb0 := fun (o1 : Obj) => Lib.hid ((Below.refl _ w).alloc (Nat.le_refl _) o1)
  have hnew := fun (o1 : Obj) => lgNew_bad (every := 1 + k) (hW.below (hb0 o1).out) (hE.below (hb0 o1).out) hc
  have hck := Lib.hid (fun (w' : World) (hb : Below w.heap.size w w') => vmCheck_any (hW.below hb) (hE.below hb))
  have haw := Lib.hid (fun (w' : World) (hb : Below w.heap.size w w') => awake10_any (hE.below hb))
  have hR0 := fun (o1 : Obj) => Lib.hid (heap_alloc_new w o1)
  have hc' : (checkW W != 0) = true := by simpa using hc
  generalize checkW W = z at *
  clear hW hE hT hc
  simp only [Wv.val, Sta.val, Sta.cells, Sta.zero, List.map_cons, List.map_nil, List.cons_append, List.nil_append] at *
  go_enter Tryz.func3, Tryz.ntmps3
  go_wp2_with fail
  refine (hnew _).mono ?_
  rintro e w1 ⟨rfl, hb1⟩
  have hB1 := Lib.hid ((hb0 (.cells #[.slice v.pa v.pl v.pc, .int .i64 W.self, .slice v.la v.ll v.lc, .int .u64 W.seed] 26)).out.trans (hb1.mono (by simp)))
  obtain ⟨c0, c1, c2, c3⟩ := row4 ((hb1.block _ (by simp)).trans (hR0 (.cells #[.slice v.pa v.pl v.pc, .int .i64 W.self, .slice v.la v.ll v.lc, .int .u64 W.seed] 26)).out)
  have hk1 := hck.out w1 hB1.out
  clear hnew hb0 hR0 hb1 hck
  go_wp2_with fail
  refine hk1.mono ?_
  rintro e w2 ⟨rfl, hr2⟩
  have hB2 := Lib.hid (hB1.out.trans (hr2.below.mono hB1.out.size))
  have hk2 := haw.out w2 hB2.out
  clear hk1 hr2 c0 c1 c2 c3 haw hB1
  go_wp2_with fail
  refine hk2.mono ?_
  rintro e w3 ⟨rfl, hb3⟩
  have hB3 := Lib.hid (hB2.out.trans (hb3.mono hB2.out.size))
  clear hk2 hb3 hB2
  go_wp2
  go_ret
  exact ⟨rfl, hB3.out⟩
/-- Events k to k + j - 1 are done again. -/
def AgainI (b : World) (lb : Nat) (v : Wv) (W : Wd) (every : Int) (bs : List Int) (a : Option Addr) (n c k c0 : Nat) (y : Pl) (ov : Value) (L0 : List (En × Value)) (sb : Nat) (cst : List Value) (j : Nat) (w : World) : Prop :=
  ∃ sv ss, LogP b w lb v W every sv ss (Pl.run W bs (fun _ => 0) k j y) (c0 + j) ∧ AheadOf bs (k + j) ss ∧ EvsAt w a n c bs ∧ EntsAt w ov L0 ∧ w.heap[sb]? = some (.cells cst.toArray 34 (0, 0))
theorem AgainI.next {b w w' : World} {lb : Nat} {v : Wv} {W : Wd} {every : Int} {bs : List Int} {a : Option Addr} {n c k c0 : Nat} {y : Pl} {ov : Value} {L0 : List (En × Value)} {sb : Nat} {cst : List Value} {j : Nat} {sv sv' : Value} {ss ss' : List Sth} (h : LogP b w lb v W every sv ss (Pl.run W bs (fun _ => 0) k j y) (c0 + j)) (he : EvsAt w a n c bs) (hA : EntsAt w ov L0) (hs : w.heap[sb]? = some (.cells cst.toArray 34 (0, 0)))
    (h' : LogP b w' lb v W every sv' ss' ((Pl.run W bs (fun _ => 0) k j y).more W (evM bs (k + j)) 0) (c0 + j + 1)) (ha : AheadOf bs (k + j + 1) ss') (hk : KeptOff (LOwn lb sv ss) w w') : AgainI b lb v W every bs a n c k c0 y ov L0 sb cst (j + 1) w' :=
  ⟨sv', ss', by rw [Pl.run_succ]; exact h', ha, he.kept hk (h.1.offV he.2 (by decide) (by decide) (by decide)), hA.kept hk (h.1.offE hA), (hk.block sb (Array.getElem?_eq_some_iff.1 hs).1 (h.1.off hs (by decide) (by decide) (by decide))).trans hs⟩
theorem AgainI.below {b w w' : World} {lb : Nat} {v : Wv} {W : Wd} {every : Int} {bs : List Int} {a : Option Addr} {n c k c0 : Nat} {y : Pl} {ov : Value} {L0 : List (En × Value)} {sb : Nat} {cst : List Value} {j : Nat} (h : AgainI b lb v W every bs a n c k c0 y ov L0 sb cst j w) (hb : Below w.heap.size w w') : AgainI b lb v W every bs a n c k c0 y ov L0 sb cst j w' := by
  obtain ⟨sv, ss, h1, h2, h3, h4, h5⟩ := h
  exact ⟨sv, ss, ⟨h1.1.below hb, h1.2⟩, h2, h3.below hb, h4.below hb, (hb.block sb (Array.getElem?_eq_some_iff.1 h5).1).trans h5⟩
set_option maxHeartbeats 16000000 in
theorem again_go {w : World} {v : Wv} {W : Wd} {t e : Int} {eb : Addr} {ka : Option Addr} {kl kc : Nat} {bs : List Int} (he : 0 ≤ e ∧ e ≤ 255) (ht : 0 ≤ t ∧ t ≤ 255) (hW : Wds w v W) (hE : ErrIs w eb) (hT : ErrT w) (hc : checkW W = 0) (hK : Byts w ka kl kc bs) :
    Calls Tryz.prog 3 #[v.val W, .slice ka kl kc, .int .u8 t, .int .u8 e] w fun e w' => e = .returned (.bool true) ∧ Below w.heap.size w w' := by
  have mixed := mixed
  obtain ⟨he0, he1⟩ := he
  have hk0 : 0 ≤ e.tmod 20 ∧ e.tmod 20 < 20 := by rw [Int.tmod_eq_emod_of_nonneg he0]; omega
  obtain ⟨k, hk⟩ : ∃ k, e.tmod 20 = k := ⟨_, rfl⟩
  rw [hk] at hk0
  obtain ⟨hk1, hk2⟩ := hk0
  have hb0 := fun (o1 : Obj) => Lib.hid ((Below.refl _ w).alloc (Nat.le_refl _) o1)
  have hnew := fun (o1 : Obj) => lgNew_ok (every := 1 + k) (hW.below (hb0 o1).out) (hE.below (hb0 o1).out) hc (by omega)
  have hev := Lib.hid (fun (w' : World) (hb : Below w.heap.size w w') => l10events_any (hK.below hb))
  have hbs : Hid (∀ x ∈ bs, 0 ≤ x ∧ x ≤ 255) := Lib.hid (fun x hx => by have := hK.2.2.2.1 x hx; omega)
  have hE' := Lib.hid hE
  have hT' := Lib.hid hT
  have hc' := Lib.hid hc
  have hn60 : min kl 60 ≤ 60 := Nat.min_le_right _ _
  have ht' := Lib.hid ht
  obtain ⟨ht0, ht1⟩ := ht
  clear hW hE hT hc hK
  simp only [Wv.val, Sta.val, Sta.cells, Sta.zero, List.map_cons, List.map_nil, List.cons_append, List.nil_append] at *
  go_enter Tryz.func3, Tryz.ntmps3
  go_wp2_with fail
  refine (hnew _).mono ?_
  rintro e w1 ⟨lb, rfl, hq1⟩
  obtain ⟨v1, sv1, ss1, hL1, hA1, -⟩ := hq1.out.logP (b := w) (hb0 _).out (by omega)
  have hL1' := Lib.hid hL1
  have hA1' := Lib.hid (hA1 bs)
  have hev1 := hev.out w1 hL1.1.base
  clear hnew hb0 hq1 hev hL1 hA1
  go_wp2_with fail
  refine hev1.mono ?_
  rintro e w2 ⟨a, c, rfl, hq2⟩
  have hst : Hid (DoneI w lb v1 W (1 + k) bs (fun _ => 0) a (min kl 60) c 0 w2) := Lib.hid ⟨sv1, ss1, ⟨hL1'.out.1.below hq2.out.2, hL1'.out.2⟩, hA1'.out, EvsAt.of_own hq2.out.1⟩
  clear hev1 hq2 hL1' hA1'
  generalize min kl 60 = n at *
  go_wp2_with fail
  go_loopw [12] (fun i wr => ∃ j : Nat, j ≤ n ∧ i = .int .i64 (j : Int) ∧ Hid (DoneI w lb v1 W (1 + k) bs (fun _ => 0) a n c j wr)) (fun i _ => n - (intOf i).toNat)
  case atStart => exact ⟨0, Nat.zero_le _, rfl, hst⟩
  case round =>
    clear hst
    obtain ⟨j, hj, rfl, hI⟩ := hrel
    by_cases hlt : j < n
    · obtain ⟨sv, ss, hLP, hAh, hEv⟩ := hI.out
      have hdo := hLP.doStep hbs.out (by omega) hE'.out hT'.out hc'.out (i := j) (by omega) hAh (uid := 0) (by omega)
      have hdo' := Lib.hid hdo
      obtain ⟨g, o, rfl, hms⟩ : ∃ g o, a = some ⟨g, o, none⟩ ∧ ∀ i, i < n → MsgAt wr g (o + i * 7) ((evs bs n).getD i default) := by
        rcases hEv.1.2.2.2 with h0 | h1
        · omega
        · exact h1
      have hm := hms j hlt
      rw [evs_get hlt] at hm
      obtain ⟨-, x0, x1, x2, x3, x4, x5, x6⟩ := hm
      have hval : (evM bs j).val = .agg #[.int .i64 (evT bs (j + 1)), .int .i64 (-1), .int .i64 (j : Int), .int .i64 0, .int .i64 (j : Int), .int .i64 (j : Int), .bool false] := rfl
      rw [hval] at hdo
      simp only [evM] at x0 x1 x2 x3 x4 x5 x6
      have hEv' := Lib.hid hEv
      have hLP' := Lib.hid hLP
      have hj0 : (0 : Int) ≤ (j : Int) := by omega
      have hj1 : (j : Int) < (n : Int) := by omega
      have a3 : IntKind.i64.wrap ((j : Int) + 1) = (j : Int) + 1 := IntWalk.i64_in _ (by omega)
      clear hI hLP hAh hEv hms hval hdo'
      generalize evT bs (j + 1) = z at *
      go_wp2_with fail
      refine hdo.mono ?_
      rintro e w3 ⟨⟨u, rfl⟩, hq⟩
      obtain ⟨sv', ss', h1, h2, h3, -⟩ := hq.out
      have hnx : Hid (DoneI w lb v1 W (1 + k) bs (fun _ => 0) (some ⟨g, o, none⟩) n c (j + 1) w3) := Lib.hid (DoneI.next hLP'.out hEv'.out h1 h2 h3)
      clear hdo hq x0 x1 x2 x3 x4 x5 x6 h1 h2 h3
      go_wp2
      go_roundw
      case rel => exact ⟨j + 1, by omega, by go_num, hnx⟩
      case measure => simp [intOf]; omega
    · obtain rfl : j = n := by omega
      obtain ⟨sv, ss, hLP, hAh, hEv⟩ := hI.out
      have hEv0 := Lib.hid hEv
      clear hI hEv hAh
      have hok := Lib.hid (PlOk.run (W := W) (bs := bs) (uid := fun _ => 0) j)
      have hag := Lib.hid (fun k (hk : k < j) => Pl.back_again W bs (fun _ => 0) hk)
      generalize Pl.run W bs (fun _ => 0) 0 j Pl.zero = PL at *
      obtain ⟨es, st, stuck⟩ := PL
      obtain ⟨hL, hes⟩ := hLP
      simp only at hL hes
      have hL0 := Lib.hid hL
      have hall := lgAll_any hE'.out hT'.out hL.base hL.of (hL.may (by omega))
      have htl := toldAll_length W ss
      rw [hes] at hall htl
      rw [← htl] at hall
      have hes' := Lib.hid hes
      have htl' := Lib.hid htl
      have hnl : ¬ (j : Int) < (j : Int) := by omega
      clear hes htl hL
      go_wp2_with fail
      refine hall.mono ?_
      rintro e w3 ⟨a0, c0, rfl, hq3⟩
      obtain ⟨LA, hA1, hA2, hA3, -⟩ := hq3.out
      have hA1' := Lib.hid hA1
      have hA2' := Lib.hid hA2
      have hL3 := Lib.hid (hL0.out.below hA3)
      have hEv3 := Lib.hid (hEv0.out.below hA3)
      have hst3 := lgState_any hL3.out.of
      clear hall hq3 hA1 hA2 hA3 hL0 hEv0
      have hls : (encSt st).length = 10 := rfl
      have hcs : Hid ((encSt st).toArray.size = 10 ∧ (encSt st).toArray.all (·.oneCell') = true) := Lib.hid ⟨rfl, encSt_one st⟩
      have heql : ∀ w, Sem.run Tryz.prog (binOp .eql 34 (.agg (encSt st).toArray) (.agg (encSt st).toArray)) w = .ok (.bool true) w := fun w => eqlS_same st w
      have hneq : ∀ w, Sem.run Tryz.prog (binOp .neq 34 (.agg (encSt st).toArray) (.agg (encSt st).toArray)) w = .ok (.bool false) w := fun w => neqS_same st w
      have hcst : ∃ cst, encSt st = cst := ⟨_, rfl⟩
      obtain ⟨cst, hcst0⟩ := hcst
      rw [hcst0] at hls hcs hneq heql hst3
      have hcst := Lib.hid hcst0
      clear hcst0
      go_wp2_with fail
      refine hst3.mono ?_
      rintro e w4 ⟨rfl, hb4⟩
      have hA4 := Lib.hid (hA2'.out.below hb4)
      have hL4 := Lib.hid (hL3.out.below hb4)
      have hEv4 := Lib.hid (hEv3.out.below hb4)
      have hA := heap_alloc_new w4 (.cells z10 34)
      have hC := Lib.hid ((Below.refl _ w4).alloc (Nat.le_refl _) (.cells z10 34))
      simp only [z10] at hA hC
      clear hst3 hb4 hA2' hL3 hEv3
      go_upto_region 13 with (refine wpList_store_row rfl 34 (.tmp 14) (.tmp 59) rfl w4.heap.size cst.toArray rfl rfl 34 _ hA (by rw [hcs.out.1]; exact infoS10) (by rw [hcs.out.1]; rfl) hcs.out.2 ?_)
      have hS5 := Lib.hid (setRow_heap (new := cst.toArray) hA)
      have hB5 := Lib.hid (below_row hC.out (g := w4.heap.size) (Nat.le_refl _) cst.toArray)
      clear hA hC
      generalize (w4.alloc (Obj.cells _ 34)).setRow w4.heap.size cst.toArray = w5 at *
      have hA5 := Lib.hid (hA4.out.below hB5.out)
      have hL5 := Lib.hid (hL4.out.below hB5.out)
      have hEv5 := Lib.hid (hEv4.out.below hB5.out)
      generalize hsb : w4.heap.size = sb at *
      clear hsb hA4 hL4 hB5 hEv4
      rcases Nat.eq_zero_or_pos j with hj00 | hj00
      · have hes0 : es.length = 0 := by have := hok.out.le; simp only at this; omega
        have hbase := Lib.hid hL5.out.base
        rw [hes0]
        subst hj00
        clear hes0 hok hag hL5 hA5 hS5 hEv5 heql hneq hls hcs
        go_wp2
        go_ret
        exact ⟨rfl, hbase.out⟩
      · obtain ⟨tn, rfl⟩ : ∃ tn : Nat, t = (tn : Int) := ⟨t.toNat, by omega⟩
        obtain ⟨kk, hkk⟩ : ∃ kk, tn % j = kk := ⟨_, rfl⟩
        have hkj : kk < j := by rw [← hkk]; exact Nat.mod_lt _ hj00
        have b2 : (tn : Int) % (j : Int) = (kk : Int) := by rw [← hkk]; exact (Int.natCast_emod tn j).symm
        have b1 : ((tn : Int)).tmod (j : Int) = (kk : Int) := by rw [Int.tmod_eq_emod_of_nonneg (by omega)]; exact b2
        have hjne : ((j : Int) == 0) = false := by simp; omega
        have hjne2 : ¬ ((j : Int) = 0) := by omega
        have hback := lgBack_any hE'.out hT'.out hL5.out (by omega) (EvSeq.part hbs.out (by rw [hes'.out]; exact hok.out.seq) kk)
        rw [Nat.sub_zero, ← htl'.out] at hback
        obtain ⟨pp, hpp0⟩ : ∃ pp, min kk es.length = pp := ⟨_, rfl⟩
        rw [hpp0] at hback
        have hpp := Lib.hid hpp0
        clear hpp0 hkk
        obtain ⟨g, o, rfl, hms⟩ : ∃ g o, a = some ⟨g, o, none⟩ ∧ ∀ i, i < j → MsgAt w5 g (o + i * 7) ((evs bs j).getD i default) := by
          rcases hEv5.out.1.2.2.2 with h0 | h1
          · omega
          · exact h1
        have hm := hms kk hkj
        rw [evs_get hkj] at hm
        obtain ⟨-, x0, x1, x2, x3, x4, x5, x6⟩ := hm
        have hval : (evM bs kk).val = .agg #[.int .i64 (evT bs (kk + 1)), .int .i64 (-1), .int .i64 (kk : Int), .int .i64 0, .int .i64 (kk : Int), .int .i64 (kk : Int), .bool false] := rfl
        rw [hval] at hback
        simp only [evM] at x0 x1 x2 x3 x4 x5 x6
        have hk00 : (0 : Int) ≤ (kk : Int) := by omega
        have hkj1 : (kk : Int) < (j : Int) := by omega
        have a9 : IntKind.i64.wrap (tn : Int) = (tn : Int) := IntWalk.i64_in _ (by omega)
        clear hms hval
        generalize evT bs (kk + 1) = z at *
        go_wp2_with fail
        refine hback.mono ?_
        rintro e w6 ⟨a1, c1, rfl, hq6⟩
        obtain ⟨-, hk6, sv6, ss6, hL6, ht6, -⟩ := hq6.out
        rw [hes'.out] at hL6 ht6
        have hS6 := Lib.hid ((hk6.block sb (Array.getElem?_eq_some_iff.1 hS5.out).1 (hL5.out.off hS5.out (by decide) (by decide) (by decide))).trans hS5.out)
        have hA6 := Lib.hid (hA5.out.kept hk6 (hL5.out.offE hA5.out))
        have hEv6 := Lib.hid (hEv5.out.kept hk6 (hL5.out.offV hEv5.out.2 (by decide) (by decide) (by decide)))
        have hL6' := Lib.hid hL6
        have ht6' := Lib.hid ht6
        have hAh6 : AheadOf bs kk ss6 := hL6.ahead (lo := 0) (by rw [ht6]; exact hok.out.seq.take) (fun _ => by rw [ht6, List.length_take]; have := hpp.out; omega)
        have hI6 : Hid (AgainI w lb v1 W (1 + k) bs (some ⟨g, o, none⟩) j c kk (j + j) (Pl.back ⟨es, st, stuck⟩ pp) (.slice a0 es.length c0) LA sb cst 0 w6) := Lib.hid ⟨sv6, ss6, ⟨hL6, ht6⟩, hAh6, hEv6.out, hA6.out, hS6.out⟩
        have hagk := hag.out kk hkj
        try simp only at hagk
        rw [hpp.out] at hagk
        have hagk' := Lib.hid hagk
        have hlA : LA.length = es.length := by rw [← hA1'.out]; simp
        have hes60 : es.length ≤ 60 := by have := hok.out.le; simp only at this; omega
        have htl6 : total ss6 = min pp es.length := by rw [← toldAll_length W ss6, ht6, List.length_take]
        clear hback hq6 hk6 hL6 ht6 hS5 hA5 hEv5 hL5 x0 x1 x2 x3 x4 x5 x6 hAh6 hagk hag hS6 hEv6
        by_cases hlen : kk < es.length
        · obtain ⟨m, hm⟩ : ∃ m, es.length = kk + m := ⟨es.length - kk, by omega⟩
          have hppk : pp = kk := by rw [← hpp.out]; omega
          have hm2 : es.length - pp = m := by omega
          have hgetk : es[kk]? = some es[kk] := List.getElem?_eq_getElem hlen
          have hst6 : (Pl.back ⟨es, st, stuck⟩ pp).st = (es[kk]).bf := by
            show backSt st (es.drop pp).reverse = _
            unfold backSt
            rw [getLast_rev_drop, hppk, hgetk]
            rfl
          have hS17 : Hid (∀ w', Below w6.heap.size w6 w' → Calls Tryz.prog 13 #[.pointer (some ⟨lb, 0, none⟩)] w' fun e w2 => e = .returned (.agg (encSt (es[kk]).bf).toArray) ∧ Below w'.heap.size w' w2) := Lib.hid (fun w' h => by
            have := lgState_any (hL6'.out.below h).of
            rwa [show backSt st (es.drop pp).reverse = (es[kk]).bf from hst6] at this)
          obtain ⟨sa6, sc6, hsv6, -⟩ := RowAt.shape hL6'.out.of.rd.abv
          have hLen17 : Hid (∀ w', Below w6.heap.size w6 w' → Calls Tryz.prog 15 #[.pointer (some ⟨lb, 0, none⟩)] w' fun e w2 => e = .returned (.int .i64 (kk : Int)) ∧ w' = w2) := Lib.hid (fun w' h => by
            have hx := (hL6'.out.below h).of.x
            have c6 := hx.c6
            rw [htl6, show min pp es.length = kk by omega] at c6
            exact lgLen_any (by rw [← hsv6]; exact hx.c5) hL6'.out.of.pos c6)
          obtain ⟨g0, o0, hr17⟩ : ∃ g0 o0, a0 = some ⟨g0, o0, none⟩ ∧ ∀ w', Below w6.heap.size w6 w' → w'.rangeAt g0 (o0 + kk * 19 + 7) (encSt (es[kk]).bf) := by
            obtain ⟨g0, o0, c9, h9, h8⟩ := hA6.out.form (by omega)
            simp at h9
            refine ⟨g0, o0, h9.1, fun w' hb => ?_⟩
            have hkA : kk < LA.length := by omega
            have h7 := h8 kk LA[kk] (List.getElem?_eq_getElem hkA)
            have h6 := range_part h7 7 10
            have h5 : LA[kk].1 = es[kk] := by
              have := congrArg (fun l => l[kk]?) hA1'.out
              simpa [hkA, hlen] using this
            have h4 : ((encE LA[kk]).drop 7).take 10 = encSt (es[kk]).bf := by rw [← h5]; rfl
            rw [h4] at h6
            have hgl : g0 < w6.heap.size := hA6.out.lt g0 (.inl (by rw [h9.1]; rfl))
            exact range_below h6 hgl hb
          obtain ⟨rfl, hr17⟩ := hr17
          have hr17' := Lib.hid hr17
          have hneq17 : ∀ w, Sem.run Tryz.prog (binOp .neq 34 (.agg (encSt (es[kk]).bf).toArray) (.agg (encSt (es[kk]).bf).toArray)) w = .ok (.bool false) w := fun w => neqS_same _ w
          have hls17 : (encSt (es[kk]).bf).length = 10 := rfl
          have d1 : ((es.length : Nat) : Int) = (kk : Int) + (m : Int) := by omega
          have d2 : (kk : Int) < (kk : Int) + (m : Int) := by omega
          have d3 : IntKind.i64.wrap ((kk : Int) + (m : Int) - (kk : Int)) = (m : Int) := by rw [IntWalk.i64_in _ (by omega)]; omega
          have d4 : IntKind.i64.wrap (((es.length : Nat) : Int) - (kk : Int)) = (m : Int) := by rw [IntWalk.i64_in _ (by omega)]; omega
          have d5 : (kk : Int) < ((es.length : Nat) : Int) := by omega
          rw [hm2]
          generalize encSt (es[kk]).bf = c17 at *
          clear hr17 hsv6 hst6 hgetk hm2 b1 b2 d1
          go_upto_region 17 with (fail)
          refine wp_region_held_drew (S := fun w' => Below w6.heap.size w6 w') (by kernel_rfl) (Below.refl _ w6).drew (fun hHeld => ?_)
          clear hHeld
          have hHd : Below w6.heap.size w6 w6.drew := (Below.refl _ w6).drew
          refine wpAnyH_take (i := 0) (oi := { dst := some 77, op := Op.move (Operand.tmp 13), type := 47, pos := "law.go:126", after := #[], guard := none }) (v := ?vv0_1) rfl (by kernel_rfl) (by kernel_rfl) (by kernel_rfl) (fun _ _ _ h => h) (Or.inl ⟨by rfl, ?hy0_1⟩) hHd ?rest0_1
          case hy0_1 =>
            intro w hSw
            go_simp
            try with_reducible rfl
          try simp only [Act.put, List.setIfInBounds_toArray, List.set_cons_zero, List.set_cons_succ]
          refine wpAnyH_take (i := 2) (oi := { dst := some 79, op := Op.move (Operand.tmp 15), type := 3, pos := "law.go:126", after := #[], guard := none }) (v := ?vv2_2) rfl (by kernel_rfl) (by kernel_rfl) (by kernel_rfl) (fun _ _ _ h => h) (Or.inl ⟨by rfl, ?hy2_2⟩) hHd ?rest2_2
          case hy2_2 =>
            intro w hSw
            go_simp
            try with_reducible rfl
          try simp only [Act.put, List.setIfInBounds_toArray, List.set_cons_zero, List.set_cons_succ]
          refine wpAnyH_take (i := 1) (oi := { dst := some 78, op := Op.call { callee := Callee.builtin Builtin.len, args := #[Operand.tmp 77], argTypes := #[47] }, type := 3, pos := "law.go:126", after := #[{ on := 0, ground := Ground.data }], guard := none }) (v := ?vv1_3) rfl (by kernel_rfl) (by kernel_rfl) (by kernel_rfl) (fun _ _ _ h => h) (Or.inl ⟨by rfl, ?hy1_3⟩) hHd ?rest1_3
          case hy1_3 =>
            intro w hSw
            go_simp
            try with_reducible rfl
          try simp only [Act.put, List.setIfInBounds_toArray, List.set_cons_zero, List.set_cons_succ]
          refine wpAnyH_take (i := 3) (oi := { dst := some 80, op := Op.binOp BinOp.gtr 3 (Operand.tmp 78) (Operand.tmp 79) 3, type := 4, pos := "law.go:126", after := #[{ on := 1, ground := Ground.data }, { on := 2, ground := Ground.data }], guard := none }) (v := ?vv3_4) rfl (by kernel_rfl) (by kernel_rfl) (by kernel_rfl) (fun _ _ _ h => h) (Or.inl ⟨by rfl, ?hy3_4⟩) hHd ?rest3_4
          case hy3_4 =>
            intro w hSw
            go_simp
            try with_reducible rfl
          try simp only [Act.put, List.setIfInBounds_toArray, List.set_cons_zero, List.set_cons_succ]
          refine wpAnyH_take (i := 4) (oi := { dst := some 81, op := Op.move (Operand.tmp 80), type := 4, pos := "law.go:126", after := #[{ on := 3, ground := Ground.data }], guard := none }) (v := ?vv4_5) rfl (by kernel_rfl) (by kernel_rfl) (by kernel_rfl) (fun _ _ _ h => h) (Or.inl ⟨by rfl, ?hy4_5⟩) hHd ?rest4_5
          case hy4_5 =>
            intro w hSw
            go_simp
            try with_reducible rfl
          try simp only [Act.put, List.setIfInBounds_toArray, List.set_cons_zero, List.set_cons_succ]
          refine wpAnyH_take (i := 5) (oi := { dst := some 82, op := Op.move (Operand.tmp 16), type := 47, pos := "law.go:126", after := #[{ on := 4, ground := Ground.guard }], guard := some (4, true) }) (v := ?vv5_6) rfl (by kernel_rfl) (by kernel_rfl) (by kernel_rfl) (fun _ _ _ h => h) (Or.inl ⟨by rfl, ?hy5_6⟩) hHd ?rest5_6
          case hy5_6 =>
            intro w hSw
            go_simp
            try with_reducible rfl
          try simp only [Act.put, List.setIfInBounds_toArray, List.set_cons_zero, List.set_cons_succ]
          refine wpAnyH_take (i := 6) (oi := { dst := some 83, op := Op.call { callee := Callee.builtin Builtin.len, args := #[Operand.tmp 82], argTypes := #[47] }, type := 3, pos := "law.go:126", after := #[{ on := 5, ground := Ground.data }, { on := 4, ground := Ground.guard }], guard := some (4, true) }) (v := ?vv6_7) rfl (by kernel_rfl) (by kernel_rfl) (by kernel_rfl) (fun _ _ _ h => h) (Or.inl ⟨by rfl, ?hy6_7⟩) hHd ?rest6_7
          case hy6_7 =>
            intro w hSw
            go_simp
            try with_reducible rfl
          try simp only [Act.put, List.setIfInBounds_toArray, List.set_cons_zero, List.set_cons_succ]
          refine wpAnyH_take (i := 7) (oi := { dst := some 84, op := Op.move (Operand.tmp 13), type := 47, pos := "law.go:126", after := #[{ on := 4, ground := Ground.guard }], guard := some (4, true) }) (v := ?vv7_8) rfl (by kernel_rfl) (by kernel_rfl) (by kernel_rfl) (fun _ _ _ h => h) (Or.inl ⟨by rfl, ?hy7_8⟩) hHd ?rest7_8
          case hy7_8 =>
            intro w hSw
            go_simp
            try with_reducible rfl
          try simp only [Act.put, List.setIfInBounds_toArray, List.set_cons_zero, List.set_cons_succ]
          refine wpAnyH_take (i := 8) (oi := { dst := some 85, op := Op.call { callee := Callee.builtin Builtin.len, args := #[Operand.tmp 84], argTypes := #[47] }, type := 3, pos := "law.go:126", after := #[{ on := 7, ground := Ground.data }, { on := 4, ground := Ground.guard }], guard := some (4, true) }) (v := ?vv8_9) rfl (by kernel_rfl) (by kernel_rfl) (by kernel_rfl) (fun _ _ _ h => h) (Or.inl ⟨by rfl, ?hy8_9⟩) hHd ?rest8_9
          case hy8_9 =>
            intro w hSw
            go_simp
            try with_reducible rfl
          try simp only [Act.put, List.setIfInBounds_toArray, List.set_cons_zero, List.set_cons_succ]
          refine wpAnyH_take (i := 9) (oi := { dst := some 86, op := Op.move (Operand.tmp 15), type := 3, pos := "law.go:126", after := #[{ on := 4, ground := Ground.guard }], guard := some (4, true) }) (v := ?vv9_10) rfl (by kernel_rfl) (by kernel_rfl) (by kernel_rfl) (fun _ _ _ h => h) (Or.inl ⟨by rfl, ?hy9_10⟩) hHd ?rest9_10
          case hy9_10 =>
            intro w hSw
            go_simp
            try with_reducible rfl
          try simp only [Act.put, List.setIfInBounds_toArray, List.set_cons_zero, List.set_cons_succ]
          refine wpAnyH_take (i := 10) (oi := { dst := some 87, op := Op.binOp BinOp.sub 3 (Operand.tmp 85) (Operand.tmp 86) 3, type := 3, pos := "law.go:126", after := #[{ on := 8, ground := Ground.data }, { on := 9, ground := Ground.data }, { on := 4, ground := Ground.guard }], guard := some (4, true) }) (v := ?vv10_11) rfl (by kernel_rfl) (by kernel_rfl) (by kernel_rfl) (fun _ _ _ h => h) (Or.inl ⟨by rfl, ?hy10_11⟩) hHd ?rest10_11
          case hy10_11 =>
            intro w hSw
            go_simp
            try with_reducible rfl
          try simp only [Act.put, List.setIfInBounds_toArray, List.set_cons_zero, List.set_cons_succ]
          refine wpAnyH_take (i := 11) (oi := { dst := some 88, op := Op.binOp BinOp.neq 3 (Operand.tmp 83) (Operand.tmp 87) 3, type := 4, pos := "law.go:126", after := #[{ on := 6, ground := Ground.data }, { on := 10, ground := Ground.data }, { on := 4, ground := Ground.guard }], guard := some (4, true) }) (v := ?vv11_12) rfl (by kernel_rfl) (by kernel_rfl) (by kernel_rfl) (fun _ _ _ h => h) (Or.inl ⟨by rfl, ?hy11_12⟩) hHd ?rest11_12
          case hy11_12 =>
            intro w hSw
            go_simp
            try with_reducible rfl
          try simp only [Act.put, List.setIfInBounds_toArray, List.set_cons_zero, List.set_cons_succ]
          refine wpAnyH_take (i := 12) (oi := { dst := some 89, op := Op.move (Operand.tmp 88), type := 4, pos := "law.go:126", after := #[{ on := 11, ground := Ground.data }, { on := 4, ground := Ground.chain }, { on := 4, ground := Ground.guard }], guard := some (4, true) }) (v := ?vv12_13) rfl (by kernel_rfl) (by kernel_rfl) (by kernel_rfl) (fun _ _ _ h => h) (Or.inl ⟨by rfl, ?hy12_13⟩) hHd ?rest12_13
          case hy12_13 =>
            intro w hSw
            go_simp
            try with_reducible rfl
          try simp only [Act.put, List.setIfInBounds_toArray, List.set_cons_zero, List.set_cons_succ]
          refine wpAnyH_take (i := 13) (oi := { dst := some 90, op := Op.move (Operand.tmp 9), type := 28, pos := "law.go:126", after := #[{ on := 12, ground := Ground.guard }], guard := some (12, false) }) (v := ?vv13_14) rfl (by kernel_rfl) (by kernel_rfl) (by kernel_rfl) (fun _ _ _ h => h) (Or.inl ⟨by rfl, ?hy13_14⟩) hHd ?rest13_14
          case hy13_14 =>
            intro w hSw
            go_simp
            try with_reducible rfl
          try simp only [Act.put, List.setIfInBounds_toArray, List.set_cons_zero, List.set_cons_succ]
          refine wpAnyH_take (i := 15) (oi := { dst := some 92, op := Op.move (Operand.tmp 13), type := 47, pos := "law.go:126", after := #[{ on := 12, ground := Ground.guard }], guard := some (12, false) }) (v := ?vv15_15) rfl (by kernel_rfl) (by kernel_rfl) (by kernel_rfl) (fun _ _ _ h => h) (Or.inl ⟨by rfl, ?hy15_15⟩) hHd ?rest15_15
          case hy15_15 =>
            intro w hSw
            go_simp
            try with_reducible rfl
          try simp only [Act.put, List.setIfInBounds_toArray, List.set_cons_zero, List.set_cons_succ]
          refine wpAnyH_take (i := 16) (oi := { dst := some 93, op := Op.move (Operand.tmp 15), type := 3, pos := "law.go:126", after := #[{ on := 12, ground := Ground.guard }], guard := some (12, false) }) (v := ?vv16_16) rfl (by kernel_rfl) (by kernel_rfl) (by kernel_rfl) (fun _ _ _ h => h) (Or.inl ⟨by rfl, ?hy16_16⟩) hHd ?rest16_16
          case hy16_16 =>
            intro w hSw
            go_simp
            try with_reducible rfl
          try simp only [Act.put, List.setIfInBounds_toArray, List.set_cons_zero, List.set_cons_succ]
          refine wpAnyH_take (i := 17) (oi := { dst := some 94, op := Op.indexAddr 47 (Operand.tmp 92) (Operand.tmp 93), type := 0, pos := "law.go:126", after := #[{ on := 15, ground := Ground.data }, { on := 16, ground := Ground.data }, { on := 12, ground := Ground.guard }], guard := some (12, false) }) (v := ?vv17_17) rfl (by kernel_rfl) (by kernel_rfl) (by kernel_rfl) (fun _ _ _ h => h) (Or.inl ⟨by rfl, ?hy17_17⟩) hHd ?rest17_17
          case hy17_17 =>
            intro w hSw
            go_simp
            try with_reducible rfl
          try simp only [Act.put, List.setIfInBounds_toArray, List.set_cons_zero, List.set_cons_succ]
          refine wpAnyH_take (i := 18) (oi := { dst := some 95, op := Op.fieldAddr 44 (Operand.tmp 94) 1, type := 0, pos := "law.go:126", after := #[{ on := 17, ground := Ground.data }, { on := 12, ground := Ground.guard }], guard := some (12, false) }) (v := ?vv18_18) rfl (by kernel_rfl) (by kernel_rfl) (by kernel_rfl) (fun _ _ _ h => h) (Or.inl ⟨by rfl, ?hy18_18⟩) hHd ?rest18_18
          case hy18_18 =>
            intro w hSw
            go_simp
            try with_reducible rfl
          try simp only [Act.put, List.setIfInBounds_toArray, List.set_cons_zero, List.set_cons_succ]
          refine wpAnyH_take (i := 19) (oi := { dst := some 96, op := Op.load 34 (Operand.tmp 95), type := 34, pos := "law.go:126", after := #[{ on := 18, ground := Ground.data }, { on := 12, ground := Ground.guard }], guard := some (12, false) }) (v := .agg (c17).toArray) rfl (by kernel_rfl) (by kernel_rfl) (by kernel_rfl) (fun _ _ _ h => h) (yieldsIf_load_mid (by rfl) 34 (.tmp 95) (by rfl) g0 (o0 + kk * 19 + 7) (by rfl) (c17) _ (fun w' h => hr17'.out w' h) Tryz.underlying34 rfl (by rw [hls17]; exact infoS10)) hHd ?_
          try simp only [Act.put, List.setIfInBounds_toArray, List.set_cons_zero, List.set_cons_succ]
          refine wpAnyH_ready (rs := [14]) (by kernel_rfl) (by simp) ?_
          refine AllReadyH.cons (o := { dst := some 91, op := Op.call { callee := Callee.value (Operand.func 13), args := #[Operand.tmp 90], argTypes := #[28] }, type := 34, pos := "law.go:126", after := #[{ on := 13, ground := Ground.data }, { on := 12, ground := Ground.chain }, { on := 12, ground := Ground.guard }], guard := some (12, false) }) rfl (fun K hK => ?_) AllReadyH.nil
          go_simp
          refine (hS17.out _ hHd).mono ?_
          rintro e w8 ⟨rfl, hb8⟩
          have hHw := hHd.trans (hb8.mono hHd.size)
          refine hK.out _ _ hHw (fun hHeld => ?_)
          clear hHeld hK K
          try simp only [Act.put, List.setIfInBounds_toArray, List.set_cons_zero, List.set_cons_succ]
          refine wpAnyH_take (i := 20) (oi := { dst := some 97, op := Op.binOp BinOp.neq 34 (Operand.tmp 91) (Operand.tmp 96) 34, type := 4, pos := "law.go:126", after := #[{ on := 14, ground := Ground.data }, { on := 19, ground := Ground.data }, { on := 12, ground := Ground.guard }], guard := some (12, false) }) (v := ?vv20_19) rfl (by kernel_rfl) (by kernel_rfl) (by kernel_rfl) (fun _ _ _ h => h) (Or.inl ⟨by rfl, ?hy20_19⟩) hHw ?rest20_19
          case hy20_19 =>
            intro w hSw
            go_simp
            try with_reducible rfl
          try simp only [Act.put, List.setIfInBounds_toArray, List.set_cons_zero, List.set_cons_succ]
          refine wpAnyH_take (i := 21) (oi := { dst := some 98, op := Op.pick (Operand.tmp 89) (Operand.const (Value.bool true)) (Operand.tmp 97), type := 4, pos := "law.go:126", after := #[{ on := 12, ground := Ground.data }, { on := 20, ground := Ground.data }, { on := 4, ground := Ground.guard }], guard := some (4, true) }) (v := ?vv21_20) rfl (by kernel_rfl) (by kernel_rfl) (by kernel_rfl) (fun _ _ _ h => h) (Or.inl ⟨by rfl, ?hy21_20⟩) hHw ?rest21_20
          case hy21_20 =>
            intro w hSw
            go_simp
            try with_reducible rfl
          try simp only [Act.put, List.setIfInBounds_toArray, List.set_cons_zero, List.set_cons_succ]
          refine wpAnyH_take (i := 22) (oi := { dst := some 99, op := Op.move (Operand.tmp 98), type := 4, pos := "law.go:126", after := #[{ on := 21, ground := Ground.data }, { on := 14, ground := Ground.chain }, { on := 4, ground := Ground.guard }], guard := some (4, true) }) (v := ?vv22_21) rfl (by kernel_rfl) (by kernel_rfl) (by kernel_rfl) (fun _ _ _ h => h) (Or.inl ⟨by rfl, ?hy22_21⟩) hHw ?rest22_21
          case hy22_21 =>
            intro w hSw
            go_simp
            try with_reducible rfl
          try simp only [Act.put, List.setIfInBounds_toArray, List.set_cons_zero, List.set_cons_succ]
          refine wpAnyH_take (i := 23) (oi := { dst := some 100, op := Op.move (Operand.tmp 9), type := 28, pos := "law.go:126", after := #[{ on := 22, ground := Ground.guard }], guard := some (22, false) }) (v := ?vv23_22) rfl (by kernel_rfl) (by kernel_rfl) (by kernel_rfl) (fun _ _ _ h => h) (Or.inl ⟨by rfl, ?hy23_22⟩) hHw ?rest23_22
          case hy23_22 =>
            intro w hSw
            go_simp
            try with_reducible rfl
          try simp only [Act.put, List.setIfInBounds_toArray, List.set_cons_zero, List.set_cons_succ]
          refine wpAnyH_take (i := 25) (oi := { dst := some 102, op := Op.move (Operand.tmp 15), type := 3, pos := "law.go:126", after := #[{ on := 22, ground := Ground.guard }], guard := some (22, false) }) (v := ?vv25_23) rfl (by kernel_rfl) (by kernel_rfl) (by kernel_rfl) (fun _ _ _ h => h) (Or.inl ⟨by rfl, ?hy25_23⟩) hHw ?rest25_23
          case hy25_23 =>
            intro w hSw
            go_simp
            try with_reducible rfl
          try simp only [Act.put, List.setIfInBounds_toArray, List.set_cons_zero, List.set_cons_succ]
          refine wpAnyH_ready (rs := [24]) (by kernel_rfl) (by simp) ?_
          refine AllReadyH.cons (o := { dst := some 101, op := Op.call { callee := Callee.value (Operand.func 15), args := #[Operand.tmp 100], argTypes := #[28] }, type := 3, pos := "law.go:126", after := #[{ on := 23, ground := Ground.data }, { on := 22, ground := Ground.chain }, { on := 22, ground := Ground.guard }], guard := some (22, false) }) rfl (fun K hK => ?_) AllReadyH.nil
          go_simp
          refine (hLen17.out _ hHw).mono ?_
          rintro e w9 ⟨rfl, rfl⟩
          have hHx := hHw
          refine hK.out _ _ hHx (fun hHeld => ?_)
          clear hHeld hK K
          try simp only [Act.put, List.setIfInBounds_toArray, List.set_cons_zero, List.set_cons_succ]
          refine wpAnyH_take (i := 26) (oi := { dst := some 103, op := Op.binOp BinOp.neq 3 (Operand.tmp 101) (Operand.tmp 102) 3, type := 4, pos := "law.go:126", after := #[{ on := 24, ground := Ground.data }, { on := 25, ground := Ground.data }, { on := 22, ground := Ground.guard }], guard := some (22, false) }) (v := ?vv26_24) rfl (by kernel_rfl) (by kernel_rfl) (by kernel_rfl) (fun _ _ _ h => h) (Or.inl ⟨by rfl, ?hy26_24⟩) hHx ?rest26_24
          case hy26_24 =>
            intro w hSw
            go_simp
            try with_reducible rfl
          try simp only [Act.put, List.setIfInBounds_toArray, List.set_cons_zero, List.set_cons_succ]
          refine wpAnyH_take (i := 27) (oi := { dst := some 104, op := Op.pick (Operand.tmp 99) (Operand.const (Value.bool true)) (Operand.tmp 103), type := 4, pos := "law.go:126", after := #[{ on := 22, ground := Ground.data }, { on := 26, ground := Ground.data }, { on := 4, ground := Ground.guard }], guard := some (4, true) }) (v := ?vv27_25) rfl (by kernel_rfl) (by kernel_rfl) (by kernel_rfl) (fun _ _ _ h => h) (Or.inl ⟨by rfl, ?hy27_25⟩) hHx ?rest27_25
          case hy27_25 =>
            intro w hSw
            go_simp
            try with_reducible rfl
          try simp only [Act.put, List.setIfInBounds_toArray, List.set_cons_zero, List.set_cons_succ]
          refine wpAnyH_take (i := 28) (oi := { dst := some 105, op := Op.pick (Operand.tmp 81) (Operand.tmp 104) (Operand.const (Value.bool false)), type := 4, pos := "law.go:126", after := #[{ on := 4, ground := Ground.data }, { on := 27, ground := Ground.data }], guard := none }) (v := ?vv28_26) rfl (by kernel_rfl) (by kernel_rfl) (by kernel_rfl) (fun _ _ _ h => h) (Or.inl ⟨by rfl, ?hy28_26⟩) hHx ?rest28_26
          case hy28_26 =>
            intro w hSw
            go_simp
            try with_reducible rfl
          try simp only [Act.put, List.setIfInBounds_toArray, List.set_cons_zero, List.set_cons_succ]
          refine wpAnyH_done (by kernel_rfl) ?_ _
          have hHy := hHx
          have hI7 := Lib.hid (hI6.out.below hHy)
          clear hHy hHd hHw hHx hb8 hS17 hLen17 hr17' hneq17 hls17 d2 d3 d4 hI6 hA6 hL6' ht6' htl6
          go_wp2_with fail
          go_loopw [17] (fun i wr => ∃ i2 : Nat, kk + i2 ≤ j ∧ i = .int .i64 ((kk + i2 : Nat) : Int) ∧ Hid (AgainI w lb v1 W (1 + k) bs (some ⟨g, o, none⟩) j c kk (j + j) (Pl.back ⟨es, st, stuck⟩ pp) (.slice (some ⟨g0, o0, none⟩) es.length c0) LA sb cst i2 wr)) (fun i _ => j - (intOf i).toNat)
          case atStart => exact ⟨0, by omega, by simp, hI7⟩
          case round =>
            clear hI7
            obtain ⟨i2, hi2, rfl, hI⟩ := hrel
            by_cases hlt2 : kk + i2 < j
            · obtain ⟨sv8, ss8, hLP, hAh, hEv, hA8, hS8⟩ := hI.out
              have hdo := hLP.doStep hbs.out (by omega) hE'.out hT'.out hc'.out (i := kk + i2) (by omega) hAh (uid := 0) (by omega)
              obtain ⟨g', o', hgo, hms⟩ : ∃ g' o', (some ⟨g, o, none⟩ : Option Addr) = some ⟨g', o', none⟩ ∧ ∀ i, i < j → MsgAt wr g' (o' + i * 7) ((evs bs j).getD i default) := by
                rcases hEv.1.2.2.2 with h0 | h1
                · omega
                · exact h1
              obtain ⟨rfl, rfl⟩ : g = g' ∧ o = o' := by simpa using hgo
              have hm := hms (kk + i2) hlt2
              rw [evs_get hlt2] at hm
              obtain ⟨-, x0, x1, x2, x3, x4, x5, x6⟩ := hm
              have hval : (evM bs (kk + i2)).val = .agg #[.int .i64 (evT bs (kk + i2 + 1)), .int .i64 (-1), .int .i64 ((kk + i2 : Nat) : Int), .int .i64 0, .int .i64 ((kk + i2 : Nat) : Int), .int .i64 ((kk + i2 : Nat) : Int), .bool false] := rfl
              rw [hval] at hdo
              simp only [evM] at x0 x1 x2 x3 x4 x5 x6
              have hEv' := Lib.hid hEv
              have hLP' := Lib.hid hLP
              have hA8' := Lib.hid hA8
              have hS8' := Lib.hid hS8
              obtain ⟨ii, hii0⟩ : ∃ ii, kk + i2 = ii := ⟨_, rfl⟩
              rw [hii0] at hdo x0 x1 x2 x3 x4 x5 x6 hlt2 ⊢
              have hii := Lib.hid hii0
              have hj0 : (0 : Int) ≤ (ii : Int) := by omega
              have hj1 : (ii : Int) < (j : Int) := by omega
              have a3 : IntKind.i64.wrap ((ii : Int) + 1) = (ii : Int) + 1 := IntWalk.i64_in _ (by omega)
              clear hI hLP hAh hEv hms hval hgo hA8 hS8 hii0
              generalize evT bs (ii + 1) = z at *
              go_wp2_with fail
              refine hdo.mono ?_
              rintro e w3 ⟨⟨u, rfl⟩, hq⟩
              obtain ⟨sv9, ss9, h1, h2, h3, -⟩ := hq.out
              rw [← hii.out] at h1 h2
              have hnx : Hid (AgainI w lb v1 W (1 + k) bs (some ⟨g, o, none⟩) j c kk (j + j) (Pl.back ⟨es, st, stuck⟩ pp) (.slice (some ⟨g0, o0, none⟩) es.length c0) LA sb cst (i2 + 1) w3) := Lib.hid (AgainI.next hLP'.out hEv'.out hA8'.out hS8'.out h1 h2 h3)
              clear hdo hq x0 x1 x2 x3 x4 x5 x6 h1 h2 h3
              go_wp2
              go_roundw
              case rel => exact ⟨i2 + 1, by have := hii.out; omega, by rw [← Nat.add_assoc, hii.out]; go_num, hnx⟩
              case measure => simp [intOf]; omega
            · have hi2e : i2 = j - kk := by omega
              obtain ⟨sv8, ss8, hLP, hAh, hEv, hA8, hS8⟩ := hI.out
              rw [hi2e, hagk'.out] at hLP
              obtain ⟨hL8, hes8⟩ := hLP
              simp only at hL8 hes8
              have htl8 : total ss8 = es.length := by rw [← toldAll_length W ss8, hes8]
              have hL8' := Lib.hid hL8
              have hA8' := Lib.hid hA8
              have hS8' := Lib.hid hS8
              have hall8 : Hid (∀ w', Below wr.heap.size wr w' → Calls Tryz.prog 12 #[.pointer (some ⟨lb, 0, none⟩)] w' fun e w2 => ∃ a c, e = .returned (.slice a es.length c) ∧ Hid (TellsE w' es (.slice a es.length c) w2)) := Lib.hid (fun w' h => by
                have := lgAll_any hE'.out hT'.out (hL8'.out.below h).base (hL8'.out.below h).of ((hL8'.out.below h).may (by omega))
                rwa [hes8, htl8] at this)
              have hSt8 : Hid (∀ w', Below wr.heap.size wr w' → Calls Tryz.prog 13 #[.pointer (some ⟨lb, 0, none⟩)] w' fun e w2 => e = .returned (.agg cst.toArray) ∧ Below w'.heap.size w' w2) := Lib.hid (fun w' h => by rw [← hcst.out]; exact lgState_any (hL8'.out.below h).of)
              have hsr8 : Hid (∀ w', Below wr.heap.size wr w' → w'.rangeAt sb 0 cst) := Lib.hid (fun w' h => by
                have := range_block ((h.block _ (Array.getElem?_eq_some_iff.1 hS8'.out).1).trans hS8'.out)
                simpa using this)
              have hE8 : Hid (∀ w9 a8 c8, Below wr.heap.size wr w9 → TellsE w9 es (.slice a8 es.length c8) w9 ∨ (∃ w', TellsE w' es (.slice a8 es.length c8) w9) → Calls Tryz.prog 16 #[.slice a8 (kk + m) c8, .slice (some ⟨g0, o0, none⟩) (kk + m) c0] w9 fun e w2 => e = .returned (.bool true) ∧ Below w9.heap.size w9 w2) := Lib.hid (fun w9 a8 c8 h ht => by
                try rw [← hm]
                have hE2 := hA8'.out.below h
                rcases ht with ⟨L8, e1, e2, _⟩ | ⟨w', L8, e1, e2, _⟩
                · exact l10entries_same e2 hE2 (by rw [e1, hA1'.out]) (by have := congrArg List.length e1; simp at this; omega)
                · exact l10entries_same e2 hE2 (by rw [e1, hA1'.out]) (by have := congrArg List.length e1; simp at this; omega))
              have hbase := Lib.hid hL8.base
              have hnlt2 : ¬ (((kk + i2 : Nat) : Int) < (j : Int)) := by omega
              have hnlt3 : ¬ ((kk : Int) + (i2 : Int) < (j : Int)) := by omega
              clear hI hAh hEv hA8 hS8 hL8 hes8 htl8 hi2e
              go_upto_region 23 with (fail)
              refine wp_region_held_drew (S := fun w' => Below wr.heap.size wr w') (by kernel_rfl) (Below.refl _ wr).drew (fun hHeld => ?_)
              clear hHeld
              have hHd : Below wr.heap.size wr wr.drew := (Below.refl _ wr).drew
              refine wpAnyH_take (i := 0) (oi := { dst := some 119, op := Op.move (Operand.tmp 9), type := 28, pos := "law.go:132", after := #[], guard := none }) (v := ?vv0_27) rfl (by kernel_rfl) (by kernel_rfl) (by kernel_rfl) (fun _ _ _ h => h) (Or.inl ⟨by rfl, ?hy0_27⟩) hHd ?rest0_27
              case hy0_27 =>
                intro w hSw
                go_simp
                try with_reducible rfl
              try simp only [Act.put, List.setIfInBounds_toArray, List.set_cons_zero, List.set_cons_succ]
              refine wpAnyH_take (i := 2) (oi := { dst := some 121, op := Op.move (Operand.tmp 13), type := 47, pos := "law.go:132", after := #[], guard := none }) (v := ?vv2_28) rfl (by kernel_rfl) (by kernel_rfl) (by kernel_rfl) (fun _ _ _ h => h) (Or.inl ⟨by rfl, ?hy2_28⟩) hHd ?rest2_28
              case hy2_28 =>
                intro w hSw
                go_simp
                try with_reducible rfl
              try simp only [Act.put, List.setIfInBounds_toArray, List.set_cons_zero, List.set_cons_succ]
              refine wpAnyH_ready (rs := [1]) (by kernel_rfl) (by simp) ?_
              refine AllReadyH.cons (o := { dst := some 120, op := Op.call { callee := Callee.value (Operand.func 12), args := #[Operand.tmp 119], argTypes := #[28] }, type := 47, pos := "law.go:132", after := #[{ on := 0, ground := Ground.data }], guard := none }) rfl (fun K hK => ?_) AllReadyH.nil
              go_simp
              refine (hall8.out _ hHd).mono ?_
              rintro e w9 ⟨a8, c8, rfl, hq9⟩
              obtain ⟨L8, e1, e2, e3, _⟩ := hq9.out
              have hHu := hHd.trans (e3.mono hHd.size)
              clear e1 e2 e3
              refine hK.out _ _ hHu (fun hHeld => ?_)
              clear hHeld hK K
              try simp only [Act.put, List.setIfInBounds_toArray, List.set_cons_zero, List.set_cons_succ]
              refine wpAnyH_ready (rs := [3]) (by kernel_rfl) (by simp) ?_
              refine AllReadyH.cons (o := { dst := some 122, op := Op.call { callee := Callee.value (Operand.func 16), args := #[Operand.tmp 120, Operand.tmp 121], argTypes := #[47, 47] }, type := 4, pos := "law.go:132", after := #[{ on := 1, ground := Ground.data }, { on := 2, ground := Ground.data }, { on := 1, ground := Ground.chain }], guard := none }) rfl (fun K hK => ?_) AllReadyH.nil
              go_simp
              refine (hE8.out _ _ _ hHu (.inr ⟨_, hq9.out⟩)).mono ?_
              rintro e w10 ⟨rfl, hb9⟩
              have hHv := hHu.trans (hb9.mono hHu.size)
              refine hK.out _ _ hHv (fun hHeld => ?_)
              clear hHeld hK K
              try simp only [Act.put, List.setIfInBounds_toArray, List.set_cons_zero, List.set_cons_succ]
              refine wpAnyH_take (i := 4) (oi := { dst := some 123, op := Op.move (Operand.tmp 122), type := 4, pos := "law.go:132", after := #[{ on := 3, ground := Ground.data }, { on := 3, ground := Ground.chain }], guard := none }) (v := ?vv4_29) rfl (by kernel_rfl) (by kernel_rfl) (by kernel_rfl) (fun _ _ _ h => h) (Or.inl ⟨by rfl, ?hy4_29⟩) hHv ?rest4_29
              case hy4_29 =>
                intro w hSw
                go_simp
                try with_reducible rfl
              try simp only [Act.put, List.setIfInBounds_toArray, List.set_cons_zero, List.set_cons_succ]
              refine wpAnyH_take (i := 5) (oi := { dst := some 124, op := Op.move (Operand.tmp 9), type := 28, pos := "law.go:132", after := #[{ on := 4, ground := Ground.guard }], guard := some (4, true) }) (v := ?vv5_30) rfl (by kernel_rfl) (by kernel_rfl) (by kernel_rfl) (fun _ _ _ h => h) (Or.inl ⟨by rfl, ?hy5_30⟩) hHv ?rest5_30
              case hy5_30 =>
                intro w hSw
                go_simp
                try with_reducible rfl
              try simp only [Act.put, List.setIfInBounds_toArray, List.set_cons_zero, List.set_cons_succ]
              refine wpAnyH_take (i := 7) (oi := { dst := some 126, op := Op.load 34 (Operand.tmp 14), type := 34, pos := "law.go:132", after := #[{ on := 4, ground := Ground.guard }], guard := some (4, true) }) (v := .agg (cst).toArray) rfl (by kernel_rfl) (by kernel_rfl) (by kernel_rfl) (fun _ _ _ h => h) (yieldsIf_load_mid (by rfl) 34 (.tmp 14) (by rfl) sb 0 (by rfl) (cst) _ (fun w' h => hsr8.out w' h) Tryz.underlying34 rfl (by rw [hls]; exact infoS10)) hHv ?_
              try simp only [Act.put, List.setIfInBounds_toArray, List.set_cons_zero, List.set_cons_succ]
              refine wpAnyH_ready (rs := [6]) (by kernel_rfl) (by simp) ?_
              refine AllReadyH.cons (o := { dst := some 125, op := Op.call { callee := Callee.value (Operand.func 13), args := #[Operand.tmp 124], argTypes := #[28] }, type := 34, pos := "law.go:132", after := #[{ on := 5, ground := Ground.data }, { on := 4, ground := Ground.chain }, { on := 4, ground := Ground.guard }], guard := some (4, true) }) rfl (fun K hK => ?_) AllReadyH.nil
              go_simp
              refine (hSt8.out _ hHv).mono ?_
              rintro e w11 ⟨rfl, hb10⟩
              have hHw := hHv.trans (hb10.mono hHv.size)
              refine hK.out _ _ hHw (fun hHeld => ?_)
              clear hHeld hK K
              try simp only [Act.put, List.setIfInBounds_toArray, List.set_cons_zero, List.set_cons_succ]
              refine wpAnyH_take (i := 8) (oi := { dst := some 127, op := Op.binOp BinOp.eql 34 (Operand.tmp 125) (Operand.tmp 126) 34, type := 4, pos := "law.go:132", after := #[{ on := 6, ground := Ground.data }, { on := 7, ground := Ground.data }, { on := 4, ground := Ground.guard }], guard := some (4, true) }) (v := ?vv8_31) rfl (by kernel_rfl) (by kernel_rfl) (by kernel_rfl) (fun _ _ _ h => h) (Or.inl ⟨by rfl, ?hy8_31⟩) hHw ?rest8_31
              case hy8_31 =>
                intro w hSw
                go_simp
                try with_reducible rfl
              try simp only [Act.put, List.setIfInBounds_toArray, List.set_cons_zero, List.set_cons_succ]
              refine wpAnyH_take (i := 9) (oi := { dst := some 128, op := Op.pick (Operand.tmp 123) (Operand.tmp 127) (Operand.const (Value.bool false)), type := 4, pos := "law.go:132", after := #[{ on := 4, ground := Ground.data }, { on := 8, ground := Ground.data }], guard := none }) (v := ?vv9_32) rfl (by kernel_rfl) (by kernel_rfl) (by kernel_rfl) (fun _ _ _ h => h) (Or.inl ⟨by rfl, ?hy9_32⟩) hHw ?rest9_32
              case hy9_32 =>
                intro w hSw
                go_simp
                try with_reducible rfl
              try simp only [Act.put, List.setIfInBounds_toArray, List.set_cons_zero, List.set_cons_succ]
              refine wpAnyH_take (i := 10) (oi := { dst := some 8, op := Op.assign (Operand.tmp 128), type := 4, pos := "law.go:132", after := #[{ on := 9, ground := Ground.data }, { on := 6, ground := Ground.chain }, { on := 0, ground := Ground.phase }, { on := 1, ground := Ground.phase }, { on := 2, ground := Ground.phase }, { on := 3, ground := Ground.phase }, { on := 4, ground := Ground.phase }, { on := 5, ground := Ground.phase }, { on := 6, ground := Ground.phase }, { on := 7, ground := Ground.phase }, { on := 8, ground := Ground.phase }, { on := 9, ground := Ground.phase }], guard := none }) (v := ?vv10_33) rfl (by kernel_rfl) (by kernel_rfl) (by kernel_rfl) (fun _ _ _ h => h) (Or.inl ⟨by rfl, ?hy10_33⟩) hHw ?rest10_33
              case hy10_33 =>
                intro w hSw
                go_simp
                try with_reducible rfl
              try simp only [Act.put, List.setIfInBounds_toArray, List.set_cons_zero, List.set_cons_succ]
              refine wpAnyH_done (by kernel_rfl) ?_ _
              have hHz := hHw
              have hBy := Lib.hid (hbase.out.trans (hHz.mono hbase.out.size))
              clear hHd hHu hHv hHw hHz hb9 hb10 hall8 hSt8 hsr8 hE8
              go_wp2
              go_ret
              exact ⟨rfl, hBy.out⟩
        · have hm0 : es.length - pp = 0 := by have := hpp.out; omega
          have d5 : ¬ ((kk : Int) < ((es.length : Nat) : Int)) := by omega
          rw [hm0]
          clear hm0 b1 b2
          go_upto_region 17 with (fail)
          refine wp_region_held_drew (S := fun w' => Below w6.heap.size w6 w') (by kernel_rfl) (Below.refl _ w6).drew (fun hHeld => ?_)
          clear hHeld
          have hHd : Below w6.heap.size w6 w6.drew := (Below.refl _ w6).drew
          refine wpAnyH_take (i := 0) (oi := { dst := some 77, op := Op.move (Operand.tmp 13), type := 47, pos := "law.go:126", after := #[], guard := none }) (v := ?vv0_34) rfl (by kernel_rfl) (by kernel_rfl) (by kernel_rfl) (fun _ _ _ h => h) (Or.inl ⟨by rfl, ?hy0_34⟩) hHd ?rest0_34
          case hy0_34 =>
            intro w hSw
            go_simp
            try with_reducible rfl
          try simp only [Act.put, List.setIfInBounds_toArray, List.set_cons_zero, List.set_cons_succ]
          refine wpAnyH_take (i := 2) (oi := { dst := some 79, op := Op.move (Operand.tmp 15), type := 3, pos := "law.go:126", after := #[], guard := none }) (v := ?vv2_35) rfl (by kernel_rfl) (by kernel_rfl) (by kernel_rfl) (fun _ _ _ h => h) (Or.inl ⟨by rfl, ?hy2_35⟩) hHd ?rest2_35
          case hy2_35 =>
            intro w hSw
            go_simp
            try with_reducible rfl
          try simp only [Act.put, List.setIfInBounds_toArray, List.set_cons_zero, List.set_cons_succ]
          refine wpAnyH_take (i := 1) (oi := { dst := some 78, op := Op.call { callee := Callee.builtin Builtin.len, args := #[Operand.tmp 77], argTypes := #[47] }, type := 3, pos := "law.go:126", after := #[{ on := 0, ground := Ground.data }], guard := none }) (v := ?vv1_36) rfl (by kernel_rfl) (by kernel_rfl) (by kernel_rfl) (fun _ _ _ h => h) (Or.inl ⟨by rfl, ?hy1_36⟩) hHd ?rest1_36
          case hy1_36 =>
            intro w hSw
            go_simp
            try with_reducible rfl
          try simp only [Act.put, List.setIfInBounds_toArray, List.set_cons_zero, List.set_cons_succ]
          refine wpAnyH_take (i := 3) (oi := { dst := some 80, op := Op.binOp BinOp.gtr 3 (Operand.tmp 78) (Operand.tmp 79) 3, type := 4, pos := "law.go:126", after := #[{ on := 1, ground := Ground.data }, { on := 2, ground := Ground.data }], guard := none }) (v := ?vv3_37) rfl (by kernel_rfl) (by kernel_rfl) (by kernel_rfl) (fun _ _ _ h => h) (Or.inl ⟨by rfl, ?hy3_37⟩) hHd ?rest3_37
          case hy3_37 =>
            intro w hSw
            go_simp
            try with_reducible rfl
          try simp only [Act.put, List.setIfInBounds_toArray, List.set_cons_zero, List.set_cons_succ]
          refine wpAnyH_take (i := 4) (oi := { dst := some 81, op := Op.move (Operand.tmp 80), type := 4, pos := "law.go:126", after := #[{ on := 3, ground := Ground.data }], guard := none }) (v := ?vv4_38) rfl (by kernel_rfl) (by kernel_rfl) (by kernel_rfl) (fun _ _ _ h => h) (Or.inl ⟨by rfl, ?hy4_38⟩) hHd ?rest4_38
          case hy4_38 =>
            intro w hSw
            go_simp
            try with_reducible rfl
          try simp only [Act.put, List.setIfInBounds_toArray, List.set_cons_zero, List.set_cons_succ]
          refine wpAnyH_take (i := 5) (oi := { dst := some 82, op := Op.move (Operand.tmp 16), type := 47, pos := "law.go:126", after := #[{ on := 4, ground := Ground.guard }], guard := some (4, true) }) (v := undef) rfl (by kernel_rfl) (by kernel_rfl) (by kernel_rfl) (fun _ _ _ h => h) (Or.inr ⟨by rfl, rfl⟩) hHd ?_
          try simp only [Act.put, List.setIfInBounds_toArray, List.set_cons_zero, List.set_cons_succ]
          refine wpAnyH_take (i := 6) (oi := { dst := some 83, op := Op.call { callee := Callee.builtin Builtin.len, args := #[Operand.tmp 82], argTypes := #[47] }, type := 3, pos := "law.go:126", after := #[{ on := 5, ground := Ground.data }, { on := 4, ground := Ground.guard }], guard := some (4, true) }) (v := undef) rfl (by kernel_rfl) (by kernel_rfl) (by kernel_rfl) (fun _ _ _ h => h) (Or.inr ⟨by rfl, rfl⟩) hHd ?_
          try simp only [Act.put, List.setIfInBounds_toArray, List.set_cons_zero, List.set_cons_succ]
          refine wpAnyH_take (i := 7) (oi := { dst := some 84, op := Op.move (Operand.tmp 13), type := 47, pos := "law.go:126", after := #[{ on := 4, ground := Ground.guard }], guard := some (4, true) }) (v := undef) rfl (by kernel_rfl) (by kernel_rfl) (by kernel_rfl) (fun _ _ _ h => h) (Or.inr ⟨by rfl, rfl⟩) hHd ?_
          try simp only [Act.put, List.setIfInBounds_toArray, List.set_cons_zero, List.set_cons_succ]
          refine wpAnyH_take (i := 8) (oi := { dst := some 85, op := Op.call { callee := Callee.builtin Builtin.len, args := #[Operand.tmp 84], argTypes := #[47] }, type := 3, pos := "law.go:126", after := #[{ on := 7, ground := Ground.data }, { on := 4, ground := Ground.guard }], guard := some (4, true) }) (v := undef) rfl (by kernel_rfl) (by kernel_rfl) (by kernel_rfl) (fun _ _ _ h => h) (Or.inr ⟨by rfl, rfl⟩) hHd ?_
          try simp only [Act.put, List.setIfInBounds_toArray, List.set_cons_zero, List.set_cons_succ]
          refine wpAnyH_take (i := 9) (oi := { dst := some 86, op := Op.move (Operand.tmp 15), type := 3, pos := "law.go:126", after := #[{ on := 4, ground := Ground.guard }], guard := some (4, true) }) (v := undef) rfl (by kernel_rfl) (by kernel_rfl) (by kernel_rfl) (fun _ _ _ h => h) (Or.inr ⟨by rfl, rfl⟩) hHd ?_
          try simp only [Act.put, List.setIfInBounds_toArray, List.set_cons_zero, List.set_cons_succ]
          refine wpAnyH_take (i := 10) (oi := { dst := some 87, op := Op.binOp BinOp.sub 3 (Operand.tmp 85) (Operand.tmp 86) 3, type := 3, pos := "law.go:126", after := #[{ on := 8, ground := Ground.data }, { on := 9, ground := Ground.data }, { on := 4, ground := Ground.guard }], guard := some (4, true) }) (v := undef) rfl (by kernel_rfl) (by kernel_rfl) (by kernel_rfl) (fun _ _ _ h => h) (Or.inr ⟨by rfl, rfl⟩) hHd ?_
          try simp only [Act.put, List.setIfInBounds_toArray, List.set_cons_zero, List.set_cons_succ]
          refine wpAnyH_take (i := 11) (oi := { dst := some 88, op := Op.binOp BinOp.neq 3 (Operand.tmp 83) (Operand.tmp 87) 3, type := 4, pos := "law.go:126", after := #[{ on := 6, ground := Ground.data }, { on := 10, ground := Ground.data }, { on := 4, ground := Ground.guard }], guard := some (4, true) }) (v := undef) rfl (by kernel_rfl) (by kernel_rfl) (by kernel_rfl) (fun _ _ _ h => h) (Or.inr ⟨by rfl, rfl⟩) hHd ?_
          try simp only [Act.put, List.setIfInBounds_toArray, List.set_cons_zero, List.set_cons_succ]
          refine wpAnyH_take (i := 12) (oi := { dst := some 89, op := Op.move (Operand.tmp 88), type := 4, pos := "law.go:126", after := #[{ on := 11, ground := Ground.data }, { on := 4, ground := Ground.chain }, { on := 4, ground := Ground.guard }], guard := some (4, true) }) (v := undef) rfl (by kernel_rfl) (by kernel_rfl) (by kernel_rfl) (fun _ _ _ h => h) (Or.inr ⟨by rfl, rfl⟩) hHd ?_
          try simp only [Act.put, List.setIfInBounds_toArray, List.set_cons_zero, List.set_cons_succ]
          refine wpAnyH_take (i := 13) (oi := { dst := some 90, op := Op.move (Operand.tmp 9), type := 28, pos := "law.go:126", after := #[{ on := 12, ground := Ground.guard }], guard := some (12, false) }) (v := undef) rfl (by kernel_rfl) (by kernel_rfl) (by kernel_rfl) (fun _ _ _ h => h) (Or.inr ⟨by rfl, rfl⟩) hHd ?_
          try simp only [Act.put, List.setIfInBounds_toArray, List.set_cons_zero, List.set_cons_succ]
          refine wpAnyH_take (i := 14) (oi := { dst := some 91, op := Op.call { callee := Callee.value (Operand.func 13), args := #[Operand.tmp 90], argTypes := #[28] }, type := 34, pos := "law.go:126", after := #[{ on := 13, ground := Ground.data }, { on := 12, ground := Ground.chain }, { on := 12, ground := Ground.guard }], guard := some (12, false) }) (v := undef) rfl (by kernel_rfl) (by kernel_rfl) (by kernel_rfl) (fun _ _ _ h => h) (Or.inr ⟨by rfl, rfl⟩) hHd ?_
          try simp only [Act.put, List.setIfInBounds_toArray, List.set_cons_zero, List.set_cons_succ]
          refine wpAnyH_take (i := 15) (oi := { dst := some 92, op := Op.move (Operand.tmp 13), type := 47, pos := "law.go:126", after := #[{ on := 12, ground := Ground.guard }], guard := some (12, false) }) (v := undef) rfl (by kernel_rfl) (by kernel_rfl) (by kernel_rfl) (fun _ _ _ h => h) (Or.inr ⟨by rfl, rfl⟩) hHd ?_
          try simp only [Act.put, List.setIfInBounds_toArray, List.set_cons_zero, List.set_cons_succ]
          refine wpAnyH_take (i := 16) (oi := { dst := some 93, op := Op.move (Operand.tmp 15), type := 3, pos := "law.go:126", after := #[{ on := 12, ground := Ground.guard }], guard := some (12, false) }) (v := undef) rfl (by kernel_rfl) (by kernel_rfl) (by kernel_rfl) (fun _ _ _ h => h) (Or.inr ⟨by rfl, rfl⟩) hHd ?_
          try simp only [Act.put, List.setIfInBounds_toArray, List.set_cons_zero, List.set_cons_succ]
          refine wpAnyH_take (i := 17) (oi := { dst := some 94, op := Op.indexAddr 47 (Operand.tmp 92) (Operand.tmp 93), type := 0, pos := "law.go:126", after := #[{ on := 15, ground := Ground.data }, { on := 16, ground := Ground.data }, { on := 12, ground := Ground.guard }], guard := some (12, false) }) (v := undef) rfl (by kernel_rfl) (by kernel_rfl) (by kernel_rfl) (fun _ _ _ h => h) (Or.inr ⟨by rfl, rfl⟩) hHd ?_
          try simp only [Act.put, List.setIfInBounds_toArray, List.set_cons_zero, List.set_cons_succ]
          refine wpAnyH_take (i := 18) (oi := { dst := some 95, op := Op.fieldAddr 44 (Operand.tmp 94) 1, type := 0, pos := "law.go:126", after := #[{ on := 17, ground := Ground.data }, { on := 12, ground := Ground.guard }], guard := some (12, false) }) (v := undef) rfl (by kernel_rfl) (by kernel_rfl) (by kernel_rfl) (fun _ _ _ h => h) (Or.inr ⟨by rfl, rfl⟩) hHd ?_
          try simp only [Act.put, List.setIfInBounds_toArray, List.set_cons_zero, List.set_cons_succ]
          refine wpAnyH_take (i := 19) (oi := { dst := some 96, op := Op.load 34 (Operand.tmp 95), type := 34, pos := "law.go:126", after := #[{ on := 18, ground := Ground.data }, { on := 12, ground := Ground.guard }], guard := some (12, false) }) (v := undef) rfl (by kernel_rfl) (by kernel_rfl) (by kernel_rfl) (fun _ _ _ h => h) (Or.inr ⟨by rfl, rfl⟩) hHd ?_
          try simp only [Act.put, List.setIfInBounds_toArray, List.set_cons_zero, List.set_cons_succ]
          refine wpAnyH_take (i := 20) (oi := { dst := some 97, op := Op.binOp BinOp.neq 34 (Operand.tmp 91) (Operand.tmp 96) 34, type := 4, pos := "law.go:126", after := #[{ on := 14, ground := Ground.data }, { on := 19, ground := Ground.data }, { on := 12, ground := Ground.guard }], guard := some (12, false) }) (v := undef) rfl (by kernel_rfl) (by kernel_rfl) (by kernel_rfl) (fun _ _ _ h => h) (Or.inr ⟨by rfl, rfl⟩) hHd ?_
          try simp only [Act.put, List.setIfInBounds_toArray, List.set_cons_zero, List.set_cons_succ]
          refine wpAnyH_take (i := 21) (oi := { dst := some 98, op := Op.pick (Operand.tmp 89) (Operand.const (Value.bool true)) (Operand.tmp 97), type := 4, pos := "law.go:126", after := #[{ on := 12, ground := Ground.data }, { on := 20, ground := Ground.data }, { on := 4, ground := Ground.guard }], guard := some (4, true) }) (v := undef) rfl (by kernel_rfl) (by kernel_rfl) (by kernel_rfl) (fun _ _ _ h => h) (Or.inr ⟨by rfl, rfl⟩) hHd ?_
          try simp only [Act.put, List.setIfInBounds_toArray, List.set_cons_zero, List.set_cons_succ]
          refine wpAnyH_take (i := 22) (oi := { dst := some 99, op := Op.move (Operand.tmp 98), type := 4, pos := "law.go:126", after := #[{ on := 21, ground := Ground.data }, { on := 14, ground := Ground.chain }, { on := 4, ground := Ground.guard }], guard := some (4, true) }) (v := undef) rfl (by kernel_rfl) (by kernel_rfl) (by kernel_rfl) (fun _ _ _ h => h) (Or.inr ⟨by rfl, rfl⟩) hHd ?_
          try simp only [Act.put, List.setIfInBounds_toArray, List.set_cons_zero, List.set_cons_succ]
          refine wpAnyH_take (i := 23) (oi := { dst := some 100, op := Op.move (Operand.tmp 9), type := 28, pos := "law.go:126", after := #[{ on := 22, ground := Ground.guard }], guard := some (22, false) }) (v := undef) rfl (by kernel_rfl) (by kernel_rfl) (by kernel_rfl) (fun _ _ _ h => h) (Or.inr ⟨by rfl, rfl⟩) hHd ?_
          try simp only [Act.put, List.setIfInBounds_toArray, List.set_cons_zero, List.set_cons_succ]
          refine wpAnyH_take (i := 24) (oi := { dst := some 101, op := Op.call { callee := Callee.value (Operand.func 15), args := #[Operand.tmp 100], argTypes := #[28] }, type := 3, pos := "law.go:126", after := #[{ on := 23, ground := Ground.data }, { on := 22, ground := Ground.chain }, { on := 22, ground := Ground.guard }], guard := some (22, false) }) (v := undef) rfl (by kernel_rfl) (by kernel_rfl) (by kernel_rfl) (fun _ _ _ h => h) (Or.inr ⟨by rfl, rfl⟩) hHd ?_
          try simp only [Act.put, List.setIfInBounds_toArray, List.set_cons_zero, List.set_cons_succ]
          refine wpAnyH_take (i := 25) (oi := { dst := some 102, op := Op.move (Operand.tmp 15), type := 3, pos := "law.go:126", after := #[{ on := 22, ground := Ground.guard }], guard := some (22, false) }) (v := undef) rfl (by kernel_rfl) (by kernel_rfl) (by kernel_rfl) (fun _ _ _ h => h) (Or.inr ⟨by rfl, rfl⟩) hHd ?_
          try simp only [Act.put, List.setIfInBounds_toArray, List.set_cons_zero, List.set_cons_succ]
          refine wpAnyH_take (i := 26) (oi := { dst := some 103, op := Op.binOp BinOp.neq 3 (Operand.tmp 101) (Operand.tmp 102) 3, type := 4, pos := "law.go:126", after := #[{ on := 24, ground := Ground.data }, { on := 25, ground := Ground.data }, { on := 22, ground := Ground.guard }], guard := some (22, false) }) (v := undef) rfl (by kernel_rfl) (by kernel_rfl) (by kernel_rfl) (fun _ _ _ h => h) (Or.inr ⟨by rfl, rfl⟩) hHd ?_
          try simp only [Act.put, List.setIfInBounds_toArray, List.set_cons_zero, List.set_cons_succ]
          refine wpAnyH_take (i := 27) (oi := { dst := some 104, op := Op.pick (Operand.tmp 99) (Operand.const (Value.bool true)) (Operand.tmp 103), type := 4, pos := "law.go:126", after := #[{ on := 22, ground := Ground.data }, { on := 26, ground := Ground.data }, { on := 4, ground := Ground.guard }], guard := some (4, true) }) (v := undef) rfl (by kernel_rfl) (by kernel_rfl) (by kernel_rfl) (fun _ _ _ h => h) (Or.inr ⟨by rfl, rfl⟩) hHd ?_
          try simp only [Act.put, List.setIfInBounds_toArray, List.set_cons_zero, List.set_cons_succ]
          refine wpAnyH_take (i := 28) (oi := { dst := some 105, op := Op.pick (Operand.tmp 81) (Operand.tmp 104) (Operand.const (Value.bool false)), type := 4, pos := "law.go:126", after := #[{ on := 4, ground := Ground.data }, { on := 27, ground := Ground.data }], guard := none }) (v := ?vv28_39) rfl (by kernel_rfl) (by kernel_rfl) (by kernel_rfl) (fun _ _ _ h => h) (Or.inl ⟨by rfl, ?hy28_39⟩) hHd ?rest28_39
          case hy28_39 =>
            intro w hSw
            go_simp
            try with_reducible rfl
          try simp only [Act.put, List.setIfInBounds_toArray, List.set_cons_zero, List.set_cons_succ]
          refine wpAnyH_done (by kernel_rfl) ?_ _
          have hHy := hHd
          have hI7 := Lib.hid (hI6.out.below hHy)
          clear hHy hHd hI6 hA6 hL6' ht6' htl6
          go_wp2_with fail
          go_loopw [17] (fun i wr => ∃ i2 : Nat, kk + i2 ≤ j ∧ i = .int .i64 ((kk + i2 : Nat) : Int) ∧ Hid (AgainI w lb v1 W (1 + k) bs (some ⟨g, o, none⟩) j c kk (j + j) (Pl.back ⟨es, st, stuck⟩ pp) (.slice a0 es.length c0) LA sb cst i2 wr)) (fun i _ => j - (intOf i).toNat)
          case atStart => exact ⟨0, by omega, by simp, hI7⟩
          case round =>
            clear hI7
            obtain ⟨i2, hi2, rfl, hI⟩ := hrel
            by_cases hlt2 : kk + i2 < j
            · obtain ⟨sv8, ss8, hLP, hAh, hEv, hA8, hS8⟩ := hI.out
              have hdo := hLP.doStep hbs.out (by omega) hE'.out hT'.out hc'.out (i := kk + i2) (by omega) hAh (uid := 0) (by omega)
              obtain ⟨g', o', hgo, hms⟩ : ∃ g' o', (some ⟨g, o, none⟩ : Option Addr) = some ⟨g', o', none⟩ ∧ ∀ i, i < j → MsgAt wr g' (o' + i * 7) ((evs bs j).getD i default) := by
                rcases hEv.1.2.2.2 with h0 | h1
                · omega
                · exact h1
              obtain ⟨rfl, rfl⟩ : g = g' ∧ o = o' := by simpa using hgo
              have hm := hms (kk + i2) hlt2
              rw [evs_get hlt2] at hm
              obtain ⟨-, x0, x1, x2, x3, x4, x5, x6⟩ := hm
              have hval : (evM bs (kk + i2)).val = .agg #[.int .i64 (evT bs (kk + i2 + 1)), .int .i64 (-1), .int .i64 ((kk + i2 : Nat) : Int), .int .i64 0, .int .i64 ((kk + i2 : Nat) : Int), .int .i64 ((kk + i2 : Nat) : Int), .bool false] := rfl
              rw [hval] at hdo
              simp only [evM] at x0 x1 x2 x3 x4 x5 x6
              have hEv' := Lib.hid hEv
              have hLP' := Lib.hid hLP
              have hA8' := Lib.hid hA8
              have hS8' := Lib.hid hS8
              obtain ⟨ii, hii0⟩ : ∃ ii, kk + i2 = ii := ⟨_, rfl⟩
              rw [hii0] at hdo x0 x1 x2 x3 x4 x5 x6 hlt2 ⊢
              have hii := Lib.hid hii0
              have hj0 : (0 : Int) ≤ (ii : Int) := by omega
              have hj1 : (ii : Int) < (j : Int) := by omega
              have a3 : IntKind.i64.wrap ((ii : Int) + 1) = (ii : Int) + 1 := IntWalk.i64_in _ (by omega)
              clear hI hLP hAh hEv hms hval hgo hA8 hS8 hii0
              generalize evT bs (ii + 1) = z at *
              go_wp2_with fail
              refine hdo.mono ?_
              rintro e w3 ⟨⟨u, rfl⟩, hq⟩
              obtain ⟨sv9, ss9, h1, h2, h3, -⟩ := hq.out
              rw [← hii.out] at h1 h2
              have hnx : Hid (AgainI w lb v1 W (1 + k) bs (some ⟨g, o, none⟩) j c kk (j + j) (Pl.back ⟨es, st, stuck⟩ pp) (.slice a0 es.length c0) LA sb cst (i2 + 1) w3) := Lib.hid (AgainI.next hLP'.out hEv'.out hA8'.out hS8'.out h1 h2 h3)
              clear hdo hq x0 x1 x2 x3 x4 x5 x6 h1 h2 h3
              go_wp2
              go_roundw
              case rel => exact ⟨i2 + 1, by have := hii.out; omega, by rw [← Nat.add_assoc, hii.out]; go_num, hnx⟩
              case measure => simp [intOf]; omega
            · have hi2e : i2 = j - kk := by omega
              obtain ⟨sv8, ss8, hLP, hAh, hEv, hA8, hS8⟩ := hI.out
              rw [hi2e, hagk'.out] at hLP
              obtain ⟨hL8, hes8⟩ := hLP
              simp only at hL8 hes8
              have htl8 : total ss8 = es.length := by rw [← toldAll_length W ss8, hes8]
              have hL8' := Lib.hid hL8
              have hA8' := Lib.hid hA8
              have hS8' := Lib.hid hS8
              have hall8 : Hid (∀ w', Below wr.heap.size wr w' → Calls Tryz.prog 12 #[.pointer (some ⟨lb, 0, none⟩)] w' fun e w2 => ∃ a c, e = .returned (.slice a es.length c) ∧ Hid (TellsE w' es (.slice a es.length c) w2)) := Lib.hid (fun w' h => by
                have := lgAll_any hE'.out hT'.out (hL8'.out.below h).base (hL8'.out.below h).of ((hL8'.out.below h).may (by omega))
                rwa [hes8, htl8] at this)
              have hSt8 : Hid (∀ w', Below wr.heap.size wr w' → Calls Tryz.prog 13 #[.pointer (some ⟨lb, 0, none⟩)] w' fun e w2 => e = .returned (.agg cst.toArray) ∧ Below w'.heap.size w' w2) := Lib.hid (fun w' h => by rw [← hcst.out]; exact lgState_any (hL8'.out.below h).of)
              have hsr8 : Hid (∀ w', Below wr.heap.size wr w' → w'.rangeAt sb 0 cst) := Lib.hid (fun w' h => by
                have := range_block ((h.block _ (Array.getElem?_eq_some_iff.1 hS8'.out).1).trans hS8'.out)
                simpa using this)
              have hE8 : Hid (∀ w9 a8 c8, Below wr.heap.size wr w9 → TellsE w9 es (.slice a8 es.length c8) w9 ∨ (∃ w', TellsE w' es (.slice a8 es.length c8) w9) → Calls Tryz.prog 16 #[.slice a8 es.length c8, .slice a0 es.length c0] w9 fun e w2 => e = .returned (.bool true) ∧ Below w9.heap.size w9 w2) := Lib.hid (fun w9 a8 c8 h ht => by
                try rw [← hm]
                have hE2 := hA8'.out.below h
                rcases ht with ⟨L8, e1, e2, _⟩ | ⟨w', L8, e1, e2, _⟩
                · exact l10entries_same e2 hE2 (by rw [e1, hA1'.out]) (by have := congrArg List.length e1; simp at this; omega)
                · exact l10entries_same e2 hE2 (by rw [e1, hA1'.out]) (by have := congrArg List.length e1; simp at this; omega))
              have hbase := Lib.hid hL8.base
              have hnlt2 : ¬ (((kk + i2 : Nat) : Int) < (j : Int)) := by omega
              have hnlt3 : ¬ ((kk : Int) + (i2 : Int) < (j : Int)) := by omega
              clear hI hAh hEv hA8 hS8 hL8 hes8 htl8 hi2e
              go_upto_region 23 with (fail)
              refine wp_region_held_drew (S := fun w' => Below wr.heap.size wr w') (by kernel_rfl) (Below.refl _ wr).drew (fun hHeld => ?_)
              clear hHeld
              have hHd : Below wr.heap.size wr wr.drew := (Below.refl _ wr).drew
              refine wpAnyH_take (i := 0) (oi := { dst := some 119, op := Op.move (Operand.tmp 9), type := 28, pos := "law.go:132", after := #[], guard := none }) (v := ?vv0_40) rfl (by kernel_rfl) (by kernel_rfl) (by kernel_rfl) (fun _ _ _ h => h) (Or.inl ⟨by rfl, ?hy0_40⟩) hHd ?rest0_40
              case hy0_40 =>
                intro w hSw
                go_simp
                try with_reducible rfl
              try simp only [Act.put, List.setIfInBounds_toArray, List.set_cons_zero, List.set_cons_succ]
              refine wpAnyH_take (i := 2) (oi := { dst := some 121, op := Op.move (Operand.tmp 13), type := 47, pos := "law.go:132", after := #[], guard := none }) (v := ?vv2_41) rfl (by kernel_rfl) (by kernel_rfl) (by kernel_rfl) (fun _ _ _ h => h) (Or.inl ⟨by rfl, ?hy2_41⟩) hHd ?rest2_41
              case hy2_41 =>
                intro w hSw
                go_simp
                try with_reducible rfl
              try simp only [Act.put, List.setIfInBounds_toArray, List.set_cons_zero, List.set_cons_succ]
              refine wpAnyH_ready (rs := [1]) (by kernel_rfl) (by simp) ?_
              refine AllReadyH.cons (o := { dst := some 120, op := Op.call { callee := Callee.value (Operand.func 12), args := #[Operand.tmp 119], argTypes := #[28] }, type := 47, pos := "law.go:132", after := #[{ on := 0, ground := Ground.data }], guard := none }) rfl (fun K hK => ?_) AllReadyH.nil
              go_simp
              refine (hall8.out _ hHd).mono ?_
              rintro e w9 ⟨a8, c8, rfl, hq9⟩
              obtain ⟨L8, e1, e2, e3, _⟩ := hq9.out
              have hHu := hHd.trans (e3.mono hHd.size)
              clear e1 e2 e3
              refine hK.out _ _ hHu (fun hHeld => ?_)
              clear hHeld hK K
              try simp only [Act.put, List.setIfInBounds_toArray, List.set_cons_zero, List.set_cons_succ]
              refine wpAnyH_ready (rs := [3]) (by kernel_rfl) (by simp) ?_
              refine AllReadyH.cons (o := { dst := some 122, op := Op.call { callee := Callee.value (Operand.func 16), args := #[Operand.tmp 120, Operand.tmp 121], argTypes := #[47, 47] }, type := 4, pos := "law.go:132", after := #[{ on := 1, ground := Ground.data }, { on := 2, ground := Ground.data }, { on := 1, ground := Ground.chain }], guard := none }) rfl (fun K hK => ?_) AllReadyH.nil
              go_simp
              refine (hE8.out _ _ _ hHu (.inr ⟨_, hq9.out⟩)).mono ?_
              rintro e w10 ⟨rfl, hb9⟩
              have hHv := hHu.trans (hb9.mono hHu.size)
              refine hK.out _ _ hHv (fun hHeld => ?_)
              clear hHeld hK K
              try simp only [Act.put, List.setIfInBounds_toArray, List.set_cons_zero, List.set_cons_succ]
              refine wpAnyH_take (i := 4) (oi := { dst := some 123, op := Op.move (Operand.tmp 122), type := 4, pos := "law.go:132", after := #[{ on := 3, ground := Ground.data }, { on := 3, ground := Ground.chain }], guard := none }) (v := ?vv4_42) rfl (by kernel_rfl) (by kernel_rfl) (by kernel_rfl) (fun _ _ _ h => h) (Or.inl ⟨by rfl, ?hy4_42⟩) hHv ?rest4_42
              case hy4_42 =>
                intro w hSw
                go_simp
                try with_reducible rfl
              try simp only [Act.put, List.setIfInBounds_toArray, List.set_cons_zero, List.set_cons_succ]
              refine wpAnyH_take (i := 5) (oi := { dst := some 124, op := Op.move (Operand.tmp 9), type := 28, pos := "law.go:132", after := #[{ on := 4, ground := Ground.guard }], guard := some (4, true) }) (v := ?vv5_43) rfl (by kernel_rfl) (by kernel_rfl) (by kernel_rfl) (fun _ _ _ h => h) (Or.inl ⟨by rfl, ?hy5_43⟩) hHv ?rest5_43
              case hy5_43 =>
                intro w hSw
                go_simp
                try with_reducible rfl
              try simp only [Act.put, List.setIfInBounds_toArray, List.set_cons_zero, List.set_cons_succ]
              refine wpAnyH_take (i := 7) (oi := { dst := some 126, op := Op.load 34 (Operand.tmp 14), type := 34, pos := "law.go:132", after := #[{ on := 4, ground := Ground.guard }], guard := some (4, true) }) (v := .agg (cst).toArray) rfl (by kernel_rfl) (by kernel_rfl) (by kernel_rfl) (fun _ _ _ h => h) (yieldsIf_load_mid (by rfl) 34 (.tmp 14) (by rfl) sb 0 (by rfl) (cst) _ (fun w' h => hsr8.out w' h) Tryz.underlying34 rfl (by rw [hls]; exact infoS10)) hHv ?_
              try simp only [Act.put, List.setIfInBounds_toArray, List.set_cons_zero, List.set_cons_succ]
              refine wpAnyH_ready (rs := [6]) (by kernel_rfl) (by simp) ?_
              refine AllReadyH.cons (o := { dst := some 125, op := Op.call { callee := Callee.value (Operand.func 13), args := #[Operand.tmp 124], argTypes := #[28] }, type := 34, pos := "law.go:132", after := #[{ on := 5, ground := Ground.data }, { on := 4, ground := Ground.chain }, { on := 4, ground := Ground.guard }], guard := some (4, true) }) rfl (fun K hK => ?_) AllReadyH.nil
              go_simp
              refine (hSt8.out _ hHv).mono ?_
              rintro e w11 ⟨rfl, hb10⟩
              have hHw := hHv.trans (hb10.mono hHv.size)
              refine hK.out _ _ hHw (fun hHeld => ?_)
              clear hHeld hK K
              try simp only [Act.put, List.setIfInBounds_toArray, List.set_cons_zero, List.set_cons_succ]
              refine wpAnyH_take (i := 8) (oi := { dst := some 127, op := Op.binOp BinOp.eql 34 (Operand.tmp 125) (Operand.tmp 126) 34, type := 4, pos := "law.go:132", after := #[{ on := 6, ground := Ground.data }, { on := 7, ground := Ground.data }, { on := 4, ground := Ground.guard }], guard := some (4, true) }) (v := ?vv8_44) rfl (by kernel_rfl) (by kernel_rfl) (by kernel_rfl) (fun _ _ _ h => h) (Or.inl ⟨by rfl, ?hy8_44⟩) hHw ?rest8_44
              case hy8_44 =>
                intro w hSw
                go_simp
                try with_reducible rfl
              try simp only [Act.put, List.setIfInBounds_toArray, List.set_cons_zero, List.set_cons_succ]
              refine wpAnyH_take (i := 9) (oi := { dst := some 128, op := Op.pick (Operand.tmp 123) (Operand.tmp 127) (Operand.const (Value.bool false)), type := 4, pos := "law.go:132", after := #[{ on := 4, ground := Ground.data }, { on := 8, ground := Ground.data }], guard := none }) (v := ?vv9_45) rfl (by kernel_rfl) (by kernel_rfl) (by kernel_rfl) (fun _ _ _ h => h) (Or.inl ⟨by rfl, ?hy9_45⟩) hHw ?rest9_45
              case hy9_45 =>
                intro w hSw
                go_simp
                try with_reducible rfl
              try simp only [Act.put, List.setIfInBounds_toArray, List.set_cons_zero, List.set_cons_succ]
              refine wpAnyH_take (i := 10) (oi := { dst := some 8, op := Op.assign (Operand.tmp 128), type := 4, pos := "law.go:132", after := #[{ on := 9, ground := Ground.data }, { on := 6, ground := Ground.chain }, { on := 0, ground := Ground.phase }, { on := 1, ground := Ground.phase }, { on := 2, ground := Ground.phase }, { on := 3, ground := Ground.phase }, { on := 4, ground := Ground.phase }, { on := 5, ground := Ground.phase }, { on := 6, ground := Ground.phase }, { on := 7, ground := Ground.phase }, { on := 8, ground := Ground.phase }, { on := 9, ground := Ground.phase }], guard := none }) (v := ?vv10_46) rfl (by kernel_rfl) (by kernel_rfl) (by kernel_rfl) (fun _ _ _ h => h) (Or.inl ⟨by rfl, ?hy10_46⟩) hHw ?rest10_46
              case hy10_46 =>
                intro w hSw
                go_simp
                try with_reducible rfl
              try simp only [Act.put, List.setIfInBounds_toArray, List.set_cons_zero, List.set_cons_succ]
              refine wpAnyH_done (by kernel_rfl) ?_ _
              have hHz := hHw
              have hBy := Lib.hid (hbase.out.trans (hHz.mono hbase.out.size))
              clear hHd hHu hHv hHw hHz hb9 hb10 hall8 hSt8 hsr8 hE8
              go_wp2
              go_ret
              exact ⟨rfl, hBy.out⟩
theorem lawLogAgain {w : World} {v : Wv} {W : Wd} {eb : Addr} {ka : Option Addr} {kl kc : Nat} {bs : List Int} (hE : ErrIs w eb) (hT : ErrT w) (hW : Wds w v W) (t : Int) (ht : (Lit.int .u8 t).wf = true) (e : Int) (he : (Lit.int .u8 e).wf = true) (hK : Byts w ka kl kc bs) (hr : kl ≤ 140737488351232) (hn : NilP ka kl kc) :
    Calls Tryz.prog 3 #[v.val W, .slice ka kl kc, .int .u8 t, .int .u8 e] w fun e w' => e = .returned (.bool true) ∧ Below w.heap.size w w' := by
  have ht' : 0 ≤ t ∧ t ≤ 255 := by exact u8_rng ht
  have he' : 0 ≤ e ∧ e ≤ 255 := by exact u8_rng he
  by_cases hc : checkW W = 0
  · exact again_go he' ht' hW hE hT hc hK
  · exact again_bad he' hW hE hT hc
end Go.Proofs.YtminfmjgmmkaoaaGreatDoor
