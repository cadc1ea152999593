/-
  The law of logs that keep states more or less often.
-/
import Derived.Test.YtminfmjgmmkaoaaGreatDoorJK
namespace Go.Proofs.YtminfmjgmmkaoaaGreatDoor
open Go.ChangeShapes Go.WideShapes Go.ChangeAt Go.Shelf Go.RowKit Go.Lib Go.Sort Go.Deep
set_option linter.unusedVariables false
set_option maxRecDepth 4000
set_option linter.unusedSimpArgs false

set_option maxHeartbeats 4000000 in
theorem keeps_bad {w : World} {v : Wv} {W : Wd} {dr bk e f : Int} {eb : Addr} {kv : Value} (he : 0 ≤ e ∧ e ≤ 255) (hf : 0 ≤ f ∧ f ≤ 255) (hW : Wds w v W) (hE : ErrIs w eb) (hT : ErrT w) (hc : checkW W ≠ 0) :
    Calls Tryz.prog 4 #[v.val W, kv, .int .u8 dr, .int .u8 bk, .int .u8 e, .int .u8 f] w fun e w' => e = .returned (.bool true) ∧ Below w.heap.size w w' := by
  obtain ⟨he0, he1⟩ := he
  obtain ⟨hf0, hf1⟩ := hf
  have hk0 : 0 ≤ e.tmod 20 ∧ e.tmod 20 < 20 := by rw [Int.tmod_eq_emod_of_nonneg he0]; omega
  have hl0 : 0 ≤ f.tmod 20 ∧ f.tmod 20 < 20 := by rw [Int.tmod_eq_emod_of_nonneg hf0]; omega
  obtain ⟨k, hk⟩ : ∃ k, e.tmod 20 = k := ⟨_, rfl⟩
  obtain ⟨l, hl⟩ : ∃ l, f.tmod 20 = l := ⟨_, rfl⟩
  rw [hk] at hk0
  rw [hl] at hl0
  obtain ⟨hk1, hk2⟩ := hk0
  obtain ⟨hl1, hl2⟩ := hl0
  have hb0 := fun (o1 : Obj) => Lib.hid ((Below.refl _ w).alloc (Nat.le_refl _) o1)
  have hnew := fun (o1 : Obj) => lgNew_bad (every := 1 + k) (hW.below (hb0 o1).out) (hE.below (hb0 o1).out) hc
  have hnewY := Lib.hid (fun (w' : World) (hb : Below w.heap.size w w') => lgNew_bad (every := 1 + l) (hW.below hb) (hE.below hb) hc)
  have hck := Lib.hid (fun (w' : World) (hb : Below w.heap.size w w') => vmCheck_any (hW.below hb) (hE.below hb))
  have haw := Lib.hid (fun (w' : World) (hb : Below w.heap.size w w') => awake10_any (hE.below hb))
  have hR0 := fun (o1 : Obj) => Lib.hid (heap_alloc_new w o1)
  have hc' : (checkW W != 0) = true := by simpa using hc
  generalize checkW W = z at *
  clear hW hE hT hc
  simp only [Wv.val, Sta.val, Sta.cells, Sta.zero, List.map_cons, List.map_nil, List.cons_append, List.nil_append] at *
  go_enter Tryz.func4, Tryz.ntmps4
  go_wp2_with fail
  refine (hnew _).mono ?_
  rintro e w1 ⟨rfl, hb1⟩
  have hB1 := Lib.hid ((hb0 (.cells #[.slice v.pa v.pl v.pc, .int .i64 W.self, .slice v.la v.ll v.lc, .int .u64 W.seed] 26)).out.trans (hb1.mono (by simp)))
  have hR1 := Lib.hid ((hb1.block _ (by simp)).trans (hR0 (.cells #[.slice v.pa v.pl v.pc, .int .i64 W.self, .slice v.la v.ll v.lc, .int .u64 W.seed] 26)).out)
  obtain ⟨c0, c1, c2, c3⟩ := row4 hR1.out
  have hn2 := hnewY.out w1 hB1.out
  try simp only [Wv.val, Sta.val, Sta.cells, Sta.zero, List.map_cons, List.map_nil, List.cons_append, List.nil_append] at hn2
  have hlt1 := (Array.getElem?_eq_some_iff.1 hR1.out).1
  have hlt1' := Lib.hid hlt1
  clear hnew hb0 hR0 hb1 hnewY hlt1
  go_wp2_with fail
  refine hn2.mono ?_
  rintro e w2 ⟨rfl, hb2⟩
  have hB2 := Lib.hid (hB1.out.trans (hb2.mono hB1.out.size))
  clear c0 c1 c2 c3
  obtain ⟨c0, c1, c2, c3⟩ := row4 ((hb2.block _ hlt1'.out).trans hR1.out)
  have hk1 := hck.out w2 hB2.out
  clear hn2 hck hb2 hR1 hB1
  go_wp2_with fail
  refine hk1.mono ?_
  rintro e w3 ⟨rfl, hr2⟩
  have hB3 := Lib.hid (hB2.out.trans (hr2.below.mono hB2.out.size))
  have hk2 := haw.out w3 hB3.out
  clear hk1 hr2 c0 c1 c2 c3 haw hB2
  go_wp2_with fail
  refine hk2.mono ?_
  rintro e w4 ⟨rfl, hb3⟩
  have hB4 := Lib.hid (hB3.out.trans (hb3.mono hB3.out.size))
  clear hk2 hb3 hB3
  go_wp2
  go_ret
  exact ⟨rfl, hB4.out⟩
theorem EvsAt.cells {w : World} {g o n c : Nat} {bs : List Int} (h : EvsAt w (some ⟨g, o, none⟩) n c bs) {j : Nat} (hj : j < n) : MsgAt w g (o + j * 7) (evM bs j) := by
  rcases h.1.2.2.2 with h0 | ⟨g', o', e, hm⟩
  · omega
  · obtain ⟨rfl, rfl⟩ : g = g' ∧ o = o' := by simpa using e
    have := hm j hj
    rwa [evs_get hj] at this
theorem EvsAt.addr {w : World} {a : Option Addr} {n c : Nat} {bs : List Int} (h : EvsAt w a n c bs) (hn : 0 < n) : ∃ g o, a = some ⟨g, o, none⟩ := by
  rcases h.1.2.2.2 with h0 | ⟨g, o, e, _⟩
  · omega
  · exact ⟨g, o, e⟩
def uid7 (i : Nat) : Int := 7 * (i : Int)
/-- Events 0 to j - 1 are done by both. -/
def KeepI (b : World) (lx ly : Nat) (v1 v2 : Wv) (W : Wd) (e1 e2 : Int) (bs : List Int) (a : Option Addr) (n c j : Nat) (w : World) : Prop :=
  ∃ s1 s2 r1 r2, Duo b w lx ly v1 v2 W e1 e2 s1 s2 r1 r2 (Pl.run W bs uid7 0 j Pl.zero) (Pl.run W bs uid7 0 j Pl.zero) j j ∧ AheadOf bs j r1 ∧ AheadOf bs j r2 ∧ EvsAt w a n c bs
set_option maxHeartbeats 16000000 in
theorem keeps_go {w : World} {v : Wv} {W : Wd} {dr bk e f : Int} {eb : Addr} {ka : Option Addr} {kl kc : Nat} {bs : List Int} (hdr : 0 ≤ dr ∧ dr ≤ 255) (hbk : 0 ≤ bk ∧ bk ≤ 255) (he : 0 ≤ e ∧ e ≤ 255) (hf : 0 ≤ f ∧ f ≤ 255) (hW : Wds w v W) (hE : ErrIs w eb) (hT : ErrT w) (hc : checkW W = 0) (hK : Byts w ka kl kc bs) :
    Calls Tryz.prog 4 #[v.val W, .slice ka kl kc, .int .u8 dr, .int .u8 bk, .int .u8 e, .int .u8 f] w fun e w' => e = .returned (.bool true) ∧ Below w.heap.size w w' := by
  have mixed := mixed
  obtain ⟨he0, he1⟩ := he
  obtain ⟨hf0, hf1⟩ := hf
  have hk0 : 0 ≤ e.tmod 20 ∧ e.tmod 20 < 20 := by rw [Int.tmod_eq_emod_of_nonneg he0]; omega
  have hl0 : 0 ≤ f.tmod 20 ∧ f.tmod 20 < 20 := by rw [Int.tmod_eq_emod_of_nonneg hf0]; omega
  obtain ⟨k, hk⟩ : ∃ k, e.tmod 20 = k := ⟨_, rfl⟩
  obtain ⟨l, hl⟩ : ∃ l, f.tmod 20 = l := ⟨_, rfl⟩
  rw [hk] at hk0
  rw [hl] at hl0
  obtain ⟨hk1, hk2⟩ := hk0
  obtain ⟨hl1, hl2⟩ := hl0
  have hb0 := fun (o1 : Obj) => Lib.hid ((Below.refl _ w).alloc (Nat.le_refl _) o1)
  have hnew := fun (o1 : Obj) => lgNew_ok (every := 1 + k) (hW.below (hb0 o1).out) (hE.below (hb0 o1).out) hc (by omega)
  have hnewY := Lib.hid (fun (w' : World) (hb : Below w.heap.size w w') => lgNew_ok (every := 1 + l) (hW.below hb) (hE.below hb) hc (by omega))
  have hev := Lib.hid (fun (w' : World) (hb : Below w.heap.size w w') => l10events_any (hK.below hb))
  have hbs : Hid (∀ x ∈ bs, 0 ≤ x ∧ x ≤ 255) := Lib.hid (fun x hx => by have := hK.2.2.2.1 x hx; omega)
  have hR0 := fun (o1 : Obj) => Lib.hid (heap_alloc_new w o1)
  have hE' := Lib.hid hE
  have hT' := Lib.hid hT
  have hc' := Lib.hid hc
  have hn60 : min kl 60 ≤ 60 := Nat.min_le_right _ _
  have hdr' := Lib.hid hdr
  have hbk' := Lib.hid hbk
  clear hW hE hT hc hK hdr hbk
  simp only [Wv.val, Sta.val, Sta.cells, Sta.zero, List.map_cons, List.map_nil, List.cons_append, List.nil_append] at *
  go_enter Tryz.func4, Tryz.ntmps4
  go_wp2_with fail
  refine (hnew _).mono ?_
  rintro e w1 ⟨lx, rfl, hq1⟩
  obtain ⟨v1, s1, r1, hL1, hA1, hO1⟩ := hq1.out.logP (b := w) (hb0 _).out (by omega)
  have hb1 := hq1.out.2.1
  have hL1' := Lib.hid hL1
  have hA1' := Lib.hid (hA1 bs)
  have hR1 := Lib.hid ((hb1.block _ (by simp)).trans (hR0 (.cells #[.slice v.pa v.pl v.pc, .int .i64 W.self, .slice v.la v.ll v.lc, .int .u64 W.seed] 26)).out)
  obtain ⟨c0, c1, c2, c3⟩ := row4 hR1.out
  have hn2 := hnewY.out w1 hL1.1.base
  try simp only [Wv.val, Sta.val, Sta.cells, Sta.zero, List.map_cons, List.map_nil, List.cons_append, List.nil_append] at hn2
  clear hnew hb0 hq1 hL1 hA1 hR0 hb1 hnewY hR1 hO1
  go_wp2_with fail
  refine hn2.mono ?_
  rintro e w2 ⟨ly, rfl, hq2⟩
  obtain ⟨v2, s2, r2, hL2, hA2, hO2⟩ := hq2.out.logP (b := w) hL1'.out.1.base (by omega)
  have hA2' := Lib.hid (hA2 bs)
  have hD2 := Lib.hid (Duo.mk (hL1'.out.below hq2.out.2.1) hL2 (fun k e e2 => by have := hL1'.out.1.lt k e; have := hO2 k e2; omega))
  have hev2 := hev.out w2 hL2.1.base
  clear hn2 hq2 hL1' hL2 hA2 hO2 hev c0 c1 c2 c3
  go_wp2_with fail
  refine hev2.mono ?_
  rintro e w3 ⟨a, c, rfl, hq3⟩
  have hst : Hid (KeepI w lx ly v1 v2 W (1 + k) (1 + l) bs a (min kl 60) c 0 w3) := Lib.hid ⟨s1, s2, r1, r2, hD2.out.below hq3.out.2, hA1'.out, hA2'.out, EvsAt.of_own hq3.out.1⟩
  clear hev2 hq3 hD2 hA1' hA2'
  generalize min kl 60 = n at *
  go_wp2_with fail
  go_loopw [18] (fun i wr => ∃ j : Nat, j ≤ n ∧ i = .int .i64 (j : Int) ∧ Hid (KeepI w lx ly v1 v2 W (1 + k) (1 + l) bs a n c j wr)) (fun i _ => n - (intOf i).toNat)
  case atStart => exact ⟨0, Nat.zero_le _, rfl, hst⟩
  case round =>
    clear hst
    obtain ⟨j, hj, rfl, hI⟩ := hrel
    by_cases hlt : j < n
    · obtain ⟨s1, s2, r1, r2, hD, hAx, hAy, hEv⟩ := hI.out
      obtain ⟨PX, hPX0⟩ : ∃ PX, Pl.run W bs uid7 0 j Pl.zero = PX := ⟨_, rfl⟩
      rw [hPX0] at hD
      have hPX := Lib.hid hPX0
      have hu : 0 ≤ uid7 j ∧ uid7 j ≤ 1099511627776 := by unfold uid7; omega
      have hdo := hD.x.doStepE hbs.out (by omega) hE'.out hT'.out hc'.out (i := j) (by omega) hAx (uid := uid7 j) hu
      obtain ⟨en, hen0⟩ : ∃ en, doneE W PX (evM bs j) (uid7 j) = en := ⟨_, rfl⟩
      rw [hen0] at hdo
      have hen := Lib.hid hen0
      obtain ⟨er, her0⟩ : ∃ er, doneErr PX = er := ⟨_, rfl⟩
      rw [her0] at hdo
      have her := Lib.hid her0
      obtain ⟨g, o, rfl⟩ := hEv.addr (by omega)
      obtain ⟨-, x0, x1, x2, x3, x4, x5, x6⟩ := hEv.cells hlt
      have hval : (evM bs j).val = .agg #[.int .i64 (evT bs (j + 1)), .int .i64 (-1), .int .i64 (j : Int), .int .i64 0, .int .i64 (j : Int), .int .i64 (j : Int), .bool false] := rfl
      rw [hval] at hdo
      simp only [evM] at x0 x1 x2 x3 x4 x5 x6
      have hEv' := Lib.hid hEv
      have hD' := Lib.hid hD
      have hAy' := Lib.hid hAy
      have hu' := Lib.hid hu
      have hj0 : (0 : Int) ≤ (j : Int) := by omega
      have hj1 : (j : Int) < (n : Int) := by omega
      have a3 : IntKind.i64.wrap ((j : Int) + 1) = (j : Int) + 1 := IntWalk.i64_in _ (by omega)
      have a7 : IntKind.i64.wrap (7 * (j : Int)) = uid7 j := IntWalk.i64_in _ (by omega)
      clear hI hD hAx hAy hEv hval hPX0 hen0 her0 hu
      generalize hz : evT bs (j + 1) = z at *
      go_wp2_with fail
      refine hdo.mono ?_
      rintro e w3 ⟨sa, sc, rfl, hq⟩
      obtain ⟨q1, q2, q3, s1', r1', q4, q5, q6⟩ := hq.out
      rw [hen.out] at q1 q2
      have hD3 := Lib.hid (hD'.out.stepX q3 q4 q6)
      have hEv3 := Lib.hid (hEv'.out.kept q3 (hD'.out.x.1.offV hEv'.out.2 (by decide) (by decide) (by decide)))
      have hM3 := Lib.hid q1
      have hMo := Lib.hid q2
      have hAx' := Lib.hid q5
      obtain ⟨EA, hEA0⟩ : ∃ EA, entC en.ev en.bf en.fl (.slice sa en.sent.length sc) = EA := ⟨_, rfl⟩
      have hcA : Hid (EA.length = 19 ∧ EA.toArray.size = 19 ∧ EA.toArray.all (·.oneCell') = true) := Lib.hid (by rw [← hEA0]; exact ⟨rfl, rfl, entC_one _ _ _ _ _ _⟩)
      rw [hEA0]
      have hEA := Lib.hid hEA0
      have hA := heap_alloc_new w3 (.cells z19 44)
      have hC := Lib.hid ((Below.refl _ w3).alloc (Nat.le_refl _) (.cells z19 44))
      simp only [z19] at hA hC
      clear hdo hq x0 x1 x2 x3 x4 x5 x6 q1 q2 q3 q4 q5 q6 hEA0
      go_upto_region 10 with (refine wpList_store_row rfl 44 (.tmp 19) (.tmp 73) rfl w3.heap.size EA.toArray rfl rfl 44 _ hA (by rw [hcA.out.2.1]; exact infoEn) (by rw [hcA.out.2.1]; rfl) hcA.out.2.2 ?_)
      have hP4 := Lib.hid (setRow_heap (new := EA.toArray) hA)
      have hB4 := Lib.hid (below_row hC.out (g := w3.heap.size) (Nat.le_refl _) EA.toArray)
      clear hA hC
      generalize (w3.alloc (Obj.cells _ 44)).setRow w3.heap.size EA.toArray = w4 at *
      have hD4 := Lib.hid (hD3.out.below hB4.out)
      have hEv4 := Lib.hid (hEv3.out.below hB4.out)
      obtain ⟨-, x0, x1, x2, x3, x4, x5, x6⟩ := hEv4.out.cells hlt
      simp only [evM, hz] at x0 x1 x2 x3 x4 x5 x6
      have hdo2 := hD4.out.y.doStepE hbs.out (by omega) hE'.out hT'.out hc'.out (i := j) (by omega) hAy'.out (uid := uid7 j) hu'.out
      rw [hen.out, her.out, show (evM bs j).val = .agg #[.int .i64 z, .int .i64 (-1), .int .i64 (j : Int), .int .i64 0, .int .i64 (j : Int), .int .i64 (j : Int), .bool false] by rw [← hz]; rfl] at hdo2
      generalize hgA : w3.heap.size = gA at *
      have hz' := Lib.hid hz
      clear hz hD3 hEv3 hEv'
      go_wp2_with fail
      refine hdo2.mono ?_
      rintro e w5 ⟨sb, sd, rfl, hq⟩
      obtain ⟨q1, q2, q3, s2', r2', q4, q5, q6⟩ := hq.out
      rw [hen.out] at q1 q2
      have hD5 := Lib.hid (hD4.out.stepY q3 q4 q6)
      have hEv5 := Lib.hid (hEv4.out.kept q3 (hD4.out.y.1.offV hEv4.out.2 (by decide) (by decide) (by decide)))
      have hP5 := Lib.hid ((q3.block _ (Array.getElem?_eq_some_iff.1 hP4.out).1 (hD4.out.y.1.off hP4.out (by decide) (by decide) (by decide))).trans hP4.out)
      have hM5 : Hid (Mgs w5 sa en.sent.length sc en.sent) := Lib.hid ((hM3.out.below (hgA ▸ hB4.out)).keptOff q3 (fun k e e2 => by have := hMo.out k e; have := hD'.out.y.1.lt k e2; omega))
      have hN5 := Lib.hid q1
      have hAy5 := Lib.hid q5
      obtain ⟨EB, hEB0⟩ : ∃ EB, entC en.ev en.bf en.fl (.slice sb en.sent.length sd) = EB := ⟨_, rfl⟩
      have hcB : Hid (EB.length = 19 ∧ EB.toArray.size = 19 ∧ EB.toArray.all (·.oneCell') = true) := Lib.hid (by rw [← hEB0]; exact ⟨rfl, rfl, entC_one _ _ _ _ _ _⟩)
      rw [hEB0]
      have hEB := Lib.hid hEB0
      have hA := heap_alloc_new w5 (.cells z19 44)
      have hC := Lib.hid ((Below.refl _ w5).alloc (Nat.le_refl _) (.cells z19 44))
      simp only [z19] at hA hC
      clear hdo2 hq x0 x1 x2 x3 x4 x5 x6 q1 q2 q3 q4 q5 q6 hEB0 hP4 hB4 hM3 hMo hD' hD4 hEv4 hgA hAy' hu'
      go_upto_region 11 with (refine wpList_store_row rfl 44 (.tmp 21) (.tmp 84) rfl w5.heap.size EB.toArray rfl rfl 44 _ hA (by rw [hcB.out.2.1]; exact infoEn) (by rw [hcB.out.2.1]; rfl) hcB.out.2.2 ?_)
      have hQ6 := Lib.hid (setRow_heap (new := EB.toArray) hA)
      have hB6 := Lib.hid (below_row hC.out (g := w5.heap.size) (Nat.le_refl _) EB.toArray)
      clear hA hC
      generalize (w5.alloc (Obj.cells _ 44)).setRow w5.heap.size EB.toArray = w6 at *
      have hent := l10entry_same (x := en) (hM5.out.below hB6.out) (hN5.out.below hB6.out)
      rw [hEA.out, hEB.out] at hent
      have rA : Hid (w6.rangeAt gA 0 EA) := Lib.hid (by
        have := range_block ((hB6.out.block _ (Array.getElem?_eq_some_iff.1 hP5.out).1).trans hP5.out)
        simpa using this)
      have rB : Hid (w6.rangeAt w5.heap.size 0 EB) := Lib.hid (by
        have := range_block hQ6.out
        simpa using this)
      have hD6 := Lib.hid (hD5.out.below hB6.out)
      have hEv6 := Lib.hid (hEv5.out.below hB6.out)
      clear hM5 hN5 hP5 hQ6 hD5 hEv5 hB6 hEA hEB
      generalize w5.heap.size = gB at *
      go_wp2_with (first
        | (refine wpList_load_mid rfl 44 (.tmp 19) rfl gA 0 rfl EA _ rA.out Tryz.underlying44 rfl (by rw [hcA.out.1]; exact infoEn) ?_)
        | (refine wpList_load_mid rfl 44 (.tmp 21) rfl gB 0 rfl EB _ rB.out Tryz.underlying44 rfl (by rw [hcB.out.1]; exact infoEn) ?_))
      refine hent.mono ?_
      rintro e w7 ⟨rfl, hb7⟩
      have hnx : Hid (KeepI w lx ly v1 v2 W (1 + k) (1 + l) bs (some ⟨g, o, none⟩) n c (j + 1) w7) := Lib.hid ⟨s1', s2', r1', r2', by rw [Pl.run_succ, Nat.zero_add, hPX.out]; exact hD6.out.below hb7, hAx'.out, hAy5.out, hEv6.out.below hb7⟩
      clear hent rA rB hcA hcB hD6 hEv6 hb7
      go_wp2
      go_roundw
      case rel => exact ⟨j + 1, by omega, by go_num, hnx⟩
      case measure => simp [intOf]; omega
    · obtain rfl : j = n := by omega
      obtain ⟨s1, s2, r1, r2, hD, hAx, hAy, hEv⟩ := hI.out
      have hok := Lib.hid (PlOk.run (W := W) (bs := bs) (uid := uid7) j)
      generalize Pl.run W bs uid7 0 j Pl.zero = PL at *
      have hD0 := Lib.hid hD
      have hEv0 := Lib.hid hEv
      have hnl : ¬ (j : Int) < (j : Int) := by omega
      clear hI hAx hAy hD hEv
      rcases Nat.eq_zero_or_pos j with hj00 | hj00
      · have hj01 : ¬ (0 : Int) < (j : Int) := by omega
        clear hEv0 hok
        subst hj00
        have htx : ∀ {w2 lb v W every sv ss c}, LogP w w2 lb v W every sv ss (PL) c → total ss = (PL).es.length := fun h => by rw [← toldAll_length, h.2]
        have hallx := lgAll_any hE'.out hT'.out hD0.out.x.1.base hD0.out.x.1.of (hD0.out.x.1.may (by omega))
        rw [hD0.out.x.2, htx hD0.out.x] at hallx
        have hes60 : (PL).es.length ≤ 1000000 := by rw [← htx hD0.out.x]; have := hD0.out.x.1.cnt; omega
        go_wp2_with fail
        refine hallx.mono ?_
        rintro e wA ⟨aA, cA, rfl, hqA⟩
        obtain ⟨LX, gx1, gx2, gx3, -⟩ := hqA.out
        have hDA := Lib.hid (hD0.out.below gx3)
        have hgx2 := Lib.hid gx2
        have hgx1 := Lib.hid gx1
        have hally := lgAll_any hE'.out hT'.out hDA.out.y.1.base hDA.out.y.1.of (hDA.out.y.1.may (by omega))
        rw [hDA.out.y.2, htx hDA.out.y] at hally
        clear hallx hqA gx1 gx2 gx3 hD0 htx
        go_wp2_with fail
        refine hally.mono ?_
        rintro e wB ⟨aB, cB, rfl, hqB⟩
        obtain ⟨LY, gy1, gy2, gy3, -⟩ := hqB.out
        have hDB := Lib.hid (hDA.out.below gy3)
        have hent := l10entries_same (hgx2.out.below gy3) gy2 (by rw [hgx1.out, gy1]) (by have := congrArg List.length hgx1.out; simp at this; omega)
        clear hally hqB gy1 gy2 gy3 hDA hgx1 hgx2
        go_wp2_with fail
        refine hent.mono ?_
        rintro e wC ⟨rfl, hbC⟩
        have hDC := Lib.hid (hDB.out.below hbC)
        clear hent hbC hDB
        have heql : ∀ w, Sem.run Tryz.prog (binOp .eql 34 (.agg (encSt (PL).st).toArray) (.agg (encSt (PL).st).toArray)) w = .ok (.bool true) w := fun w => eqlS_same _ w
        have hSx := lgState_any hDC.out.x.1.of
        have hSy : Hid (∀ w', Below wC.heap.size wC w' → Calls Tryz.prog 13 #[.pointer (some ⟨ly, 0, none⟩)] w' fun e w2 => e = .returned (.agg (encSt (PL).st).toArray) ∧ Below w'.heap.size w' w2) := Lib.hid (fun w' h => lgState_any (hDC.out.y.1.below h).of)
        generalize encSt (PL).st = cst at *
        go_wp2_with fail
        refine hSx.mono ?_
        rintro e wD ⟨rfl, hbD⟩
        have hSy' := hSy.out wD hbD
        have hDD := Lib.hid (hDC.out.below hbD)
        clear hSx hbD hSy hDC
        go_wp2_with fail
        refine hSy'.mono ?_
        rintro e wE ⟨rfl, hbE⟩
        have hDE := Lib.hid (hDD.out.below hbE)
        have hlx := Lib.hid hDE.out.x.1.n
        have hcx := Lib.hid hDE.out.x.1.cnt
        have hpx := Lib.hid hDE.out.x.1.of.pos
        have hpy := Lib.hid hDE.out.y.1.of.pos
        have hny := Lib.hid hDE.out.y.1.n
        have hcy := Lib.hid hDE.out.y.1.cnt
        obtain ⟨sxa, sxc, hsx, -⟩ := RowAt.shape hDE.out.x.1.of.rd.abv
        obtain ⟨sya, syc, hsy, -⟩ := RowAt.shape hDE.out.y.1.of.rd.abv
        have hKx := lgKept_any (by rw [← hsx]; exact hDE.out.x.1.of.x.c5) hpx.out
        have hLx := lgLen_any (by rw [← hsx]; exact hDE.out.x.1.of.x.c5) hpx.out hDE.out.x.1.of.x.c6
        have hKy := lgKept_any (by rw [← hsy]; exact hDE.out.y.1.of.x.c5) hpy.out
        have hBE := Lib.hid hDE.out.x.1.base
        clear hSy' hbE hDE hDD hsx hsy
        obtain ⟨nx, hnx⟩ : ∃ nx : Nat, r1.length = nx := ⟨_, rfl⟩
        obtain ⟨tx, htx⟩ : ∃ tx : Nat, total r1 = tx := ⟨_, rfl⟩
        obtain ⟨ny, hny2⟩ : ∃ ny : Nat, r2.length = ny := ⟨_, rfl⟩
        have d1 : (nx : Int) ≤ (tx : Int) + 1 := by have := hlx.out; omega
        have d2 : IntKind.i64.wrap ((tx : Int) + 1) = (tx : Int) + 1 := IntWalk.i64_in _ (by have := hcx.out; omega)
        have d3 : (1 : Int) ≤ (ny : Int) := by have := hpy.out; omega
        rw [hnx] at hKx
        rw [htx] at hLx
        rw [hny2] at hKy
        clear hlx hcx hpx hpy hny hcy hnx htx hny2
        go_wp2_with fail
        refine hKx.mono ?_
        rintro e wF ⟨rfl, rfl⟩
        clear hKx
        go_wp2_with fail
        refine hLx.mono ?_
        rintro e wF ⟨rfl, rfl⟩
        clear hLx
        go_wp2_with fail
        refine hKy.mono ?_
        rintro e wF ⟨rfl, rfl⟩
        clear hKy
        go_wp2
        go_ret
        exact ⟨rfl, hBE.out⟩
      · obtain ⟨dn, rfl⟩ : ∃ dn : Nat, dr = (dn : Int) := ⟨dr.toNat, by have := hdr'.out; omega⟩
        obtain ⟨bn, rfl⟩ : ∃ bn : Nat, bk = (bn : Int) := ⟨bk.toNat, by have := hbk'.out; omega⟩
        obtain ⟨kd, hkd⟩ : ∃ kd, dn % j = kd := ⟨_, rfl⟩
        obtain ⟨kb, hkb⟩ : ∃ kb, bn % j = kb := ⟨_, rfl⟩
        have hkdj : kd < j := by rw [← hkd]; exact Nat.mod_lt _ hj00
        have hkbj : kb < j := by rw [← hkb]; exact Nat.mod_lt _ hj00
        have b2d : (dn : Int) % (j : Int) = (kd : Int) := by rw [← hkd]; exact (Int.natCast_emod dn j).symm
        have b2b : (bn : Int) % (j : Int) = (kb : Int) := by rw [← hkb]; exact (Int.natCast_emod bn j).symm
        have b1d : ((dn : Int)).tmod (j : Int) = (kd : Int) := by rw [Int.tmod_eq_emod_of_nonneg (by omega)]; exact b2d
        have b1b : ((bn : Int)).tmod (j : Int) = (kb : Int) := by rw [Int.tmod_eq_emod_of_nonneg (by omega)]; exact b2b
        have hjp : (0 : Int) < (j : Int) := by omega
        have hjne : ((j : Int) == 0) = false := by simp; omega
        have hjne2 : ¬ ((j : Int) = 0) := by omega
        have hjne3 : ¬ (j = 0) := by omega
        have a9d : IntKind.i64.wrap (dn : Int) = (dn : Int) := IntWalk.i64_in _ (by have := hdr'.out; omega)
        have a9b : IntKind.i64.wrap (bn : Int) = (bn : Int) := IntWalk.i64_in _ (by have := hbk'.out; omega)
        have hd00 : (0 : Int) ≤ (kd : Int) := by omega
        have hdj1 : (kd : Int) < (j : Int) := by omega
        have hb00 : (0 : Int) ≤ (kb : Int) := by omega
        have hbj1 : (kb : Int) < (j : Int) := by omega
        obtain ⟨g, o, rfl⟩ := hEv0.out.addr hj00
        obtain ⟨-, x0, -⟩ := hEv0.out.cells hkdj
        simp only [evM] at x0
        obtain ⟨z, hz⟩ : ∃ z, evT bs (kd + 1) = z := ⟨_, rfl⟩
        rw [hz] at x0
        obtain ⟨zb, hzb⟩ : ∃ zb, evT bs (kb + 1) = zb := ⟨_, rfl⟩
        have hEvW : Hid (∀ w', KeptOff (fun k => LOwn lx s1 r1 k ∨ LOwn ly s2 r2 k) wr w' → MsgAt w' g (o + kb * 7) (evM bs kb)) := Lib.hid (fun w' h => (hEv0.out.kept h (fun k e e2 => e2.elim (hD0.out.x.1.offV hEv0.out.2 (by decide) (by decide) (by decide) k e) (hD0.out.y.1.offV hEv0.out.2 (by decide) (by decide) (by decide) k e))).cells hkbj)
        have hEvC : Hid (∀ w', KeptOff (fun k => LOwn lx s1 r1 k ∨ LOwn ly s2 r2 k) wr w' → w'.cell? ⟨g, o + kb * 7, none⟩ = some (.int .i64 zb) ∧ w'.cell? ⟨g, o + kb * 7 + 1, none⟩ = some (.int .i64 (-1)) ∧ w'.cell? ⟨g, o + kb * 7 + 2, none⟩ = some (.int .i64 (kb : Int)) ∧ w'.cell? ⟨g, o + kb * 7 + 3, none⟩ = some (.int .i64 0) ∧ w'.cell? ⟨g, o + kb * 7 + 4, none⟩ = some (.int .i64 (kb : Int)) ∧ w'.cell? ⟨g, o + kb * 7 + 5, none⟩ = some (.int .i64 (kb : Int)) ∧ w'.cell? ⟨g, o + kb * 7 + 6, none⟩ = some (.bool false)) := Lib.hid (fun w' h => by
          obtain ⟨-, y0, y1, y2, y3, y4, y5, y6⟩ := hEvW.out w' h
          simp only [evM, hzb] at y0 y1 y2 y3 y4 y5 y6
          exact ⟨y0, y1, y2, y3, y4, y5, y6⟩)
        have hval : (evM bs kb).val = .agg #[.int .i64 zb, .int .i64 (-1), .int .i64 (kb : Int), .int .i64 0, .int .i64 (kb : Int), .int .i64 (kb : Int), .bool false] := by rw [← hzb]; rfl
        have hval' := Lib.hid hval
        clear hval hkd hkb b2d b2b hzb hz hEvW hEv0
        go_upto_region 15 with (fail)
        refine wp_region_held_drew (S := fun w' => KeptOff (fun k => LOwn lx s1 r1 k ∨ LOwn ly s2 r2 k) wr w') (by kernel_rfl) ⟨rfl, rfl, rfl, Nat.le_refl _, fun _ _ _ => rfl⟩ (fun hHeld => ?_)
        clear hHeld
        have hH0 : KeptOff (fun k => LOwn lx s1 r1 k ∨ LOwn ly s2 r2 k) wr wr.drew := ⟨rfl, rfl, rfl, Nat.le_refl _, fun _ _ _ => rfl⟩
        have hD6 := Lib.hid (hD0.out.below (Below.refl _ wr).drew)
        have hdx := hD6.out.x.dropped hE'.out hT'.out (by omega) z
        obtain ⟨nd, hnd0⟩ : ∃ nd, dropN PL.es z = nd := ⟨_, rfl⟩
        rw [hnd0] at hdx
        have hnd := Lib.hid hnd0
        clear hnd0 hD0 x0
        refine wpAnyH_take (i := 0) (oi := { dst := some 108, op := Op.move (Operand.tmp 13), type := 28, pos := "law.go:152", after := #[], guard := none }) (v := ?vv0_1) rfl (by kernel_rfl) (by kernel_rfl) (by kernel_rfl) (fun _ _ _ h => h) (Or.inl ⟨by rfl, ?hy0_1⟩) hH0 ?rest0_1
        case hy0_1 =>
          intro w hSw
          go_simp
          try with_reducible rfl
        try simp only [Act.put, List.setIfInBounds_toArray, List.set_cons_zero, List.set_cons_succ]
        refine wpAnyH_take (i := 1) (oi := { dst := some 109, op := Op.move (Operand.tmp 23), type := 2, pos := "law.go:152", after := #[], guard := none }) (v := ?vv1_2) rfl (by kernel_rfl) (by kernel_rfl) (by kernel_rfl) (fun _ _ _ h => h) (Or.inl ⟨by rfl, ?hy1_2⟩) hH0 ?rest1_2
        case hy1_2 =>
          intro w hSw
          go_simp
          try with_reducible rfl
        try simp only [Act.put, List.setIfInBounds_toArray, List.set_cons_zero, List.set_cons_succ]
        refine wpAnyH_take (i := 3) (oi := { dst := some 111, op := Op.move (Operand.tmp 15), type := 28, pos := "law.go:152", after := #[], guard := none }) (v := ?vv3_3) rfl (by kernel_rfl) (by kernel_rfl) (by kernel_rfl) (fun _ _ _ h => h) (Or.inl ⟨by rfl, ?hy3_3⟩) hH0 ?rest3_3
        case hy3_3 =>
          intro w hSw
          go_simp
          try with_reducible rfl
        try simp only [Act.put, List.setIfInBounds_toArray, List.set_cons_zero, List.set_cons_succ]
        refine wpAnyH_take (i := 4) (oi := { dst := some 112, op := Op.move (Operand.tmp 23), type := 2, pos := "law.go:152", after := #[], guard := none }) (v := ?vv4_4) rfl (by kernel_rfl) (by kernel_rfl) (by kernel_rfl) (fun _ _ _ h => h) (Or.inl ⟨by rfl, ?hy4_4⟩) hH0 ?rest4_4
        case hy4_4 =>
          intro w hSw
          go_simp
          try with_reducible rfl
        try simp only [Act.put, List.setIfInBounds_toArray, List.set_cons_zero, List.set_cons_succ]
        refine wpAnyH_ready (rs := [2]) (by kernel_rfl) (by simp) ?_
        refine AllReadyH.cons (o := { dst := some 110, op := Op.call { callee := Callee.value (Operand.func 18), args := #[Operand.tmp 108, Operand.tmp 109], argTypes := #[28, 2] }, type := 47, pos := "law.go:152", after := #[{ on := 0, ground := Ground.data }, { on := 1, ground := Ground.data }], guard := none }) rfl (fun K hK => ?_) AllReadyH.nil
        go_simp
        refine hdx.mono ?_
        rintro e w7 ⟨a7, c7, rfl, hq7⟩
        obtain ⟨⟨LX, gx1, gx2, gx3⟩, kx, s1x, r1x, px, nx⟩ := hq7.out
        have hH7 := hH0.trans (kx.mono (fun k _ e => .inl e))
        refine hK.out _ _ hH7 (fun hHeld => ?_)
        clear hHeld hK K
        try simp only [Act.put, List.setIfInBounds_toArray, List.set_cons_zero, List.set_cons_succ]
        have hD7 := Lib.hid (hD6.out.stepX kx px (fun k e => .inl (nx k e)))
        have hdy := hD7.out.y.dropped hE'.out hT'.out (by omega) z
        rw [hnd.out] at hdy
        clear hdx hD6 kx px gx3 hq7
        refine wpAnyH_ready (rs := [5]) (by kernel_rfl) (by simp) ?_
        refine AllReadyH.cons (o := { dst := some 113, op := Op.call { callee := Callee.value (Operand.func 18), args := #[Operand.tmp 111, Operand.tmp 112], argTypes := #[28, 2] }, type := 47, pos := "law.go:152", after := #[{ on := 3, ground := Ground.data }, { on := 4, ground := Ground.data }, { on := 2, ground := Ground.chain }], guard := none }) rfl (fun K hK => ?_) AllReadyH.nil
        go_simp
        refine hdy.mono ?_
        rintro e w8 ⟨a8, c8, rfl, hq8⟩
        obtain ⟨⟨LY, gy1, gy2, gy3⟩, ky, s2x, r2x, py, ny⟩ := hq8.out
        have hH8 := hH7.trans (ky.mono (fun k _ e => .inr e))
        refine hK.out _ _ hH8 (fun hHeld => ?_)
        clear hHeld hK K
        try simp only [Act.put, List.setIfInBounds_toArray, List.set_cons_zero, List.set_cons_succ]
        have hD8 := Lib.hid (hD7.out.stepY ky py (fun k e => .inl (ny k e)))
        have hes60 : PL.es.length ≤ 1000000 := by have := hok.out.le; omega
        have hent := l10entries_same (gx2.kept ky (hD7.out.y.1.offE gx2)) gy2 (by rw [gx1, gy1]) (by have := congrArg List.length gx1; simp at this; omega)
        clear hdy hD7 ky py gy1 gy2 gy3 gx1 gx2 hq8
        refine wpAnyH_ready (rs := [6]) (by kernel_rfl) (by simp) ?_
        refine AllReadyH.cons (o := { dst := some 114, op := Op.call { callee := Callee.value (Operand.func 16), args := #[Operand.tmp 110, Operand.tmp 113], argTypes := #[47, 47] }, type := 4, pos := "law.go:152", after := #[{ on := 2, ground := Ground.data }, { on := 5, ground := Ground.data }, { on := 5, ground := Ground.chain }], guard := none }) rfl (fun K hK => ?_) AllReadyH.nil
        go_simp
        refine hent.mono ?_
        rintro e w9 ⟨rfl, hb9⟩
        have hH9 := hH8.trans (.of_below hb9)
        refine hK.out _ _ hH9 (fun hHeld => ?_)
        clear hHeld hK K
        try simp only [Act.put, List.setIfInBounds_toArray, List.set_cons_zero, List.set_cons_succ]
        have hD9 := Lib.hid (hD8.out.below hb9)
        have hbx := hD9.out.x.backed hE'.out hT'.out (by omega) hbs.out (lo := 0 + nd) hok.out.seq.drop kb
        obtain ⟨p, hp0⟩ : ∃ p, min (kb - (0 + nd)) (PL.cut nd).es.length = p := ⟨_, rfl⟩
        obtain ⟨q, hq0⟩ : ∃ q, (PL.cut nd).es.length - p = q := ⟨_, rfl⟩
        rw [hp0, hq0, hval'.out] at hbx
        have hp := Lib.hid hp0
        have hq := Lib.hid hq0
        have hesc : (PL.cut nd).es.length ≤ 1000000 := by show (PL.es.drop nd).length ≤ _; rw [List.length_drop]; omega
        clear hent hD8 hb9 hp0 hq0 hH8 hH7 hH0
        refine wpAnyH_take (i := 7) (oi := { dst := some 115, op := Op.unOp UnOp.not 4 (Operand.tmp 114), type := 4, pos := "law.go:152", after := #[{ on := 6, ground := Ground.data }], guard := none }) (v := ?vv7_5) rfl (by kernel_rfl) (by kernel_rfl) (by kernel_rfl) (fun _ _ _ h => h) (Or.inl ⟨by rfl, ?hy7_5⟩) hH9 ?rest7_5
        case hy7_5 =>
          intro w hSw
          go_simp
          try with_reducible rfl
        try simp only [Act.put, List.setIfInBounds_toArray, List.set_cons_zero, List.set_cons_succ]
        refine wpAnyH_take (i := 8) (oi := { dst := some 116, op := Op.move (Operand.tmp 115), type := 4, pos := "law.go:152", after := #[{ on := 7, ground := Ground.data }, { on := 6, ground := Ground.chain }], guard := none }) (v := ?vv8_6) rfl (by kernel_rfl) (by kernel_rfl) (by kernel_rfl) (fun _ _ _ h => h) (Or.inl ⟨by rfl, ?hy8_6⟩) hH9 ?rest8_6
        case hy8_6 =>
          intro w hSw
          go_simp
          try with_reducible rfl
        try simp only [Act.put, List.setIfInBounds_toArray, List.set_cons_zero, List.set_cons_succ]
        refine wpAnyH_take (i := 9) (oi := { dst := some 117, op := Op.move (Operand.tmp 13), type := 28, pos := "law.go:152", after := #[{ on := 8, ground := Ground.guard }], guard := some (8, false) }) (v := ?vv9_7) rfl (by kernel_rfl) (by kernel_rfl) (by kernel_rfl) (fun _ _ _ h => h) (Or.inl ⟨by rfl, ?hy9_7⟩) hH9 ?rest9_7
        case hy9_7 =>
          intro w hSw
          go_simp
          try with_reducible rfl
        try simp only [Act.put, List.setIfInBounds_toArray, List.set_cons_zero, List.set_cons_succ]
        refine wpAnyH_take (i := 10) (oi := { dst := some 118, op := Op.move (Operand.tmp 17), type := 37, pos := "law.go:152", after := #[{ on := 8, ground := Ground.guard }], guard := some (8, false) }) (v := ?vv10_8) rfl (by kernel_rfl) (by kernel_rfl) (by kernel_rfl) (fun _ _ _ h => h) (Or.inl ⟨by rfl, ?hy10_8⟩) hH9 ?rest10_8
        case hy10_8 =>
          intro w hSw
          go_simp
          try with_reducible rfl
        try simp only [Act.put, List.setIfInBounds_toArray, List.set_cons_zero, List.set_cons_succ]
        refine wpAnyH_take (i := 11) (oi := { dst := some 119, op := Op.move (Operand.tmp 3), type := 5, pos := "law.go:152", after := #[{ on := 8, ground := Ground.guard }], guard := some (8, false) }) (v := ?vv11_9) rfl (by kernel_rfl) (by kernel_rfl) (by kernel_rfl) (fun _ _ _ h => h) (Or.inl ⟨by rfl, ?hy11_9⟩) hH9 ?rest11_9
        case hy11_9 =>
          intro w hSw
          go_simp
          try with_reducible rfl
        try simp only [Act.put, List.setIfInBounds_toArray, List.set_cons_zero, List.set_cons_succ]
        refine wpAnyH_take (i := 12) (oi := { dst := some 120, op := Op.convert 5 3 (Operand.tmp 119), type := 3, pos := "law.go:152", after := #[{ on := 11, ground := Ground.data }, { on := 8, ground := Ground.guard }], guard := some (8, false) }) (v := ?vv12_10) rfl (by kernel_rfl) (by kernel_rfl) (by kernel_rfl) (fun _ _ _ h => h) (Or.inl ⟨by rfl, ?hy12_10⟩) hH9 ?rest12_10
        case hy12_10 =>
          intro w hSw
          go_simp
          try with_reducible rfl
        try simp only [Act.put, List.setIfInBounds_toArray, List.set_cons_zero, List.set_cons_succ]
        refine wpAnyH_take (i := 13) (oi := { dst := some 121, op := Op.move (Operand.tmp 17), type := 37, pos := "law.go:152", after := #[{ on := 8, ground := Ground.guard }], guard := some (8, false) }) (v := ?vv13_11) rfl (by kernel_rfl) (by kernel_rfl) (by kernel_rfl) (fun _ _ _ h => h) (Or.inl ⟨by rfl, ?hy13_11⟩) hH9 ?rest13_11
        case hy13_11 =>
          intro w hSw
          go_simp
          try with_reducible rfl
        try simp only [Act.put, List.setIfInBounds_toArray, List.set_cons_zero, List.set_cons_succ]
        refine wpAnyH_take (i := 14) (oi := { dst := some 122, op := Op.call { callee := Callee.builtin Builtin.len, args := #[Operand.tmp 121], argTypes := #[37] }, type := 3, pos := "law.go:152", after := #[{ on := 13, ground := Ground.data }, { on := 8, ground := Ground.guard }], guard := some (8, false) }) (v := ?vv14_12) rfl (by kernel_rfl) (by kernel_rfl) (by kernel_rfl) (fun _ _ _ h => h) (Or.inl ⟨by rfl, ?hy14_12⟩) hH9 ?rest14_12
        case hy14_12 =>
          intro w hSw
          go_simp
          try with_reducible rfl
        try simp only [Act.put, List.setIfInBounds_toArray, List.set_cons_zero, List.set_cons_succ]
        refine wpAnyH_take (i := 15) (oi := { dst := some 123, op := Op.binOp BinOp.rem 3 (Operand.tmp 120) (Operand.tmp 122) 3, type := 3, pos := "law.go:152", after := #[{ on := 12, ground := Ground.data }, { on := 14, ground := Ground.data }, { on := 8, ground := Ground.guard }], guard := some (8, false) }) (v := ?vv15_13) rfl (by kernel_rfl) (by kernel_rfl) (by kernel_rfl) (fun _ _ _ h => h) (Or.inl ⟨by rfl, ?hy15_13⟩) hH9 ?rest15_13
        case hy15_13 =>
          intro w hSw
          go_simp
          try with_reducible rfl
        try simp only [Act.put, List.setIfInBounds_toArray, List.set_cons_zero, List.set_cons_succ]
        refine wpAnyH_take (i := 16) (oi := { dst := some 124, op := Op.indexAddr 37 (Operand.tmp 118) (Operand.tmp 123), type := 0, pos := "law.go:152", after := #[{ on := 10, ground := Ground.data }, { on := 15, ground := Ground.data }, { on := 8, ground := Ground.guard }], guard := some (8, false) }) (v := ?vv16_14) rfl (by kernel_rfl) (by kernel_rfl) (by kernel_rfl) (fun _ _ _ h => h) (Or.inl ⟨by rfl, ?hy16_14⟩) hH9 ?rest16_14
        case hy16_14 =>
          intro w hSw
          go_simp
          try with_reducible rfl
        try simp only [Act.put, List.setIfInBounds_toArray, List.set_cons_zero, List.set_cons_succ]
        refine wpAnyH_take (i := 17) (oi := { dst := some 125, op := Op.load 42 (Operand.tmp 124), type := 42, pos := "law.go:152", after := #[{ on := 16, ground := Ground.data }, { on := 8, ground := Ground.guard }], guard := some (8, false) }) (v := ?vv17_15) rfl (by kernel_rfl) (by kernel_rfl) (by kernel_rfl) (fun _ _ _ h => h) (Or.inl ⟨by rfl, ?hy17_15⟩) hH9 ?rest17_15
        case hy17_15 =>
          intro w hSw
          obtain ⟨y0, y1, y2, y3, y4, y5, y6⟩ := hEvC.out w hSw
          go_simp
          try with_reducible rfl
        try simp only [Act.put, List.setIfInBounds_toArray, List.set_cons_zero, List.set_cons_succ]
        refine wpAnyH_take (i := 19) (oi := { dst := some 127, op := Op.move (Operand.tmp 15), type := 28, pos := "law.go:152", after := #[{ on := 8, ground := Ground.guard }], guard := some (8, false) }) (v := ?vv19_16) rfl (by kernel_rfl) (by kernel_rfl) (by kernel_rfl) (fun _ _ _ h => h) (Or.inl ⟨by rfl, ?hy19_16⟩) hH9 ?rest19_16
        case hy19_16 =>
          intro w hSw
          go_simp
          try with_reducible rfl
        try simp only [Act.put, List.setIfInBounds_toArray, List.set_cons_zero, List.set_cons_succ]
        refine wpAnyH_take (i := 20) (oi := { dst := some 128, op := Op.move (Operand.tmp 17), type := 37, pos := "law.go:152", after := #[{ on := 8, ground := Ground.guard }], guard := some (8, false) }) (v := ?vv20_17) rfl (by kernel_rfl) (by kernel_rfl) (by kernel_rfl) (fun _ _ _ h => h) (Or.inl ⟨by rfl, ?hy20_17⟩) hH9 ?rest20_17
        case hy20_17 =>
          intro w hSw
          go_simp
          try with_reducible rfl
        try simp only [Act.put, List.setIfInBounds_toArray, List.set_cons_zero, List.set_cons_succ]
        refine wpAnyH_take (i := 21) (oi := { dst := some 129, op := Op.move (Operand.tmp 3), type := 5, pos := "law.go:152", after := #[{ on := 8, ground := Ground.guard }], guard := some (8, false) }) (v := ?vv21_18) rfl (by kernel_rfl) (by kernel_rfl) (by kernel_rfl) (fun _ _ _ h => h) (Or.inl ⟨by rfl, ?hy21_18⟩) hH9 ?rest21_18
        case hy21_18 =>
          intro w hSw
          go_simp
          try with_reducible rfl
        try simp only [Act.put, List.setIfInBounds_toArray, List.set_cons_zero, List.set_cons_succ]
        refine wpAnyH_take (i := 22) (oi := { dst := some 130, op := Op.convert 5 3 (Operand.tmp 129), type := 3, pos := "law.go:152", after := #[{ on := 21, ground := Ground.data }, { on := 8, ground := Ground.guard }], guard := some (8, false) }) (v := ?vv22_19) rfl (by kernel_rfl) (by kernel_rfl) (by kernel_rfl) (fun _ _ _ h => h) (Or.inl ⟨by rfl, ?hy22_19⟩) hH9 ?rest22_19
        case hy22_19 =>
          intro w hSw
          go_simp
          try with_reducible rfl
        try simp only [Act.put, List.setIfInBounds_toArray, List.set_cons_zero, List.set_cons_succ]
        refine wpAnyH_take (i := 23) (oi := { dst := some 131, op := Op.move (Operand.tmp 17), type := 37, pos := "law.go:152", after := #[{ on := 8, ground := Ground.guard }], guard := some (8, false) }) (v := ?vv23_20) rfl (by kernel_rfl) (by kernel_rfl) (by kernel_rfl) (fun _ _ _ h => h) (Or.inl ⟨by rfl, ?hy23_20⟩) hH9 ?rest23_20
        case hy23_20 =>
          intro w hSw
          go_simp
          try with_reducible rfl
        try simp only [Act.put, List.setIfInBounds_toArray, List.set_cons_zero, List.set_cons_succ]
        refine wpAnyH_take (i := 24) (oi := { dst := some 132, op := Op.call { callee := Callee.builtin Builtin.len, args := #[Operand.tmp 131], argTypes := #[37] }, type := 3, pos := "law.go:152", after := #[{ on := 23, ground := Ground.data }, { on := 8, ground := Ground.guard }], guard := some (8, false) }) (v := ?vv24_21) rfl (by kernel_rfl) (by kernel_rfl) (by kernel_rfl) (fun _ _ _ h => h) (Or.inl ⟨by rfl, ?hy24_21⟩) hH9 ?rest24_21
        case hy24_21 =>
          intro w hSw
          go_simp
          try with_reducible rfl
        try simp only [Act.put, List.setIfInBounds_toArray, List.set_cons_zero, List.set_cons_succ]
        refine wpAnyH_take (i := 25) (oi := { dst := some 133, op := Op.binOp BinOp.rem 3 (Operand.tmp 130) (Operand.tmp 132) 3, type := 3, pos := "law.go:152", after := #[{ on := 22, ground := Ground.data }, { on := 24, ground := Ground.data }, { on := 8, ground := Ground.guard }], guard := some (8, false) }) (v := ?vv25_22) rfl (by kernel_rfl) (by kernel_rfl) (by kernel_rfl) (fun _ _ _ h => h) (Or.inl ⟨by rfl, ?hy25_22⟩) hH9 ?rest25_22
        case hy25_22 =>
          intro w hSw
          go_simp
          try with_reducible rfl
        try simp only [Act.put, List.setIfInBounds_toArray, List.set_cons_zero, List.set_cons_succ]
        refine wpAnyH_take (i := 26) (oi := { dst := some 134, op := Op.indexAddr 37 (Operand.tmp 128) (Operand.tmp 133), type := 0, pos := "law.go:152", after := #[{ on := 20, ground := Ground.data }, { on := 25, ground := Ground.data }, { on := 8, ground := Ground.guard }], guard := some (8, false) }) (v := ?vv26_23) rfl (by kernel_rfl) (by kernel_rfl) (by kernel_rfl) (fun _ _ _ h => h) (Or.inl ⟨by rfl, ?hy26_23⟩) hH9 ?rest26_23
        case hy26_23 =>
          intro w hSw
          go_simp
          try with_reducible rfl
        try simp only [Act.put, List.setIfInBounds_toArray, List.set_cons_zero, List.set_cons_succ]
        refine wpAnyH_take (i := 27) (oi := { dst := some 135, op := Op.load 42 (Operand.tmp 134), type := 42, pos := "law.go:152", after := #[{ on := 26, ground := Ground.data }, { on := 8, ground := Ground.guard }], guard := some (8, false) }) (v := ?vv27_24) rfl (by kernel_rfl) (by kernel_rfl) (by kernel_rfl) (fun _ _ _ h => h) (Or.inl ⟨by rfl, ?hy27_24⟩) hH9 ?rest27_24
        case hy27_24 =>
          intro w hSw
          obtain ⟨y0, y1, y2, y3, y4, y5, y6⟩ := hEvC.out w hSw
          go_simp
          try with_reducible rfl
        try simp only [Act.put, List.setIfInBounds_toArray, List.set_cons_zero, List.set_cons_succ]
        refine wpAnyH_ready (rs := [18]) (by kernel_rfl) (by simp) ?_
        refine AllReadyH.cons (o := { dst := some 126, op := Op.call { callee := Callee.value (Operand.func 14), args := #[Operand.tmp 117, Operand.tmp 125], argTypes := #[28, 42] }, type := 47, pos := "law.go:152", after := #[{ on := 9, ground := Ground.data }, { on := 17, ground := Ground.data }, { on := 8, ground := Ground.chain }, { on := 8, ground := Ground.guard }], guard := some (8, false) }) rfl (fun K hK => ?_) AllReadyH.nil
        go_simp
        refine hbx.mono ?_
        rintro e w10 ⟨a10, c10, rfl, hq10⟩
        obtain ⟨⟨LX, gx1, gx2, gx3⟩, kx, s1y, r1y, px, mx⟩ := hq10.out
        have hHa := hH9.trans (kx.mono (fun k _ e => .inl (nx k e)))
        refine hK.out _ _ hHa (fun hHeld => ?_)
        clear hHeld hK K
        try simp only [Act.put, List.setIfInBounds_toArray, List.set_cons_zero, List.set_cons_succ]
        have hDa := Lib.hid (hD9.out.stepX kx px (fun k e => .inl (mx k e)))
        have hby := hDa.out.y.backed hE'.out hT'.out (by omega) hbs.out (lo := 0 + nd) hok.out.seq.drop kb
        rw [hp.out, hq.out, hval'.out] at hby
        clear hbx hD9 kx px gx3 hq10 hH9
        refine wpAnyH_ready (rs := [28]) (by kernel_rfl) (by simp) ?_
        refine AllReadyH.cons (o := { dst := some 136, op := Op.call { callee := Callee.value (Operand.func 14), args := #[Operand.tmp 127, Operand.tmp 135], argTypes := #[28, 42] }, type := 47, pos := "law.go:152", after := #[{ on := 19, ground := Ground.data }, { on := 27, ground := Ground.data }, { on := 18, ground := Ground.chain }, { on := 8, ground := Ground.guard }], guard := some (8, false) }) rfl (fun K hK => ?_) AllReadyH.nil
        go_simp
        refine hby.mono ?_
        rintro e w11 ⟨a11, c11, rfl, hq11⟩
        obtain ⟨⟨LY, gy1, gy2, gy3⟩, ky, s2y, r2y, py, my⟩ := hq11.out
        have hHb := hHa.trans (ky.mono (fun k _ e => .inr (ny k e)))
        refine hK.out _ _ hHb (fun hHeld => ?_)
        clear hHeld hK K
        try simp only [Act.put, List.setIfInBounds_toArray, List.set_cons_zero, List.set_cons_succ]
        have hDb := Lib.hid (hDa.out.stepY ky py (fun k e => .inl (my k e)))
        have hent := l10entries_same (gx2.kept ky (hDa.out.y.1.offE gx2)) gy2 (by rw [gx1, gy1]) (by have := congrArg List.length gx1; simp at this; omega)
        clear hby hDa ky py gy1 gy2 gy3 gx1 gx2 hq11
        refine wpAnyH_ready (rs := [29]) (by kernel_rfl) (by simp) ?_
        refine AllReadyH.cons (o := { dst := some 137, op := Op.call { callee := Callee.value (Operand.func 16), args := #[Operand.tmp 126, Operand.tmp 136], argTypes := #[47, 47] }, type := 4, pos := "law.go:152", after := #[{ on := 18, ground := Ground.data }, { on := 28, ground := Ground.data }, { on := 28, ground := Ground.chain }, { on := 8, ground := Ground.guard }], guard := some (8, false) }) rfl (fun K hK => ?_) AllReadyH.nil
        go_simp
        refine hent.mono ?_
        rintro e w12 ⟨rfl, hb12⟩
        have hHc := hHb.trans (.of_below hb12)
        refine hK.out _ _ hHc (fun hHeld => ?_)
        clear hHeld hK K
        try simp only [Act.put, List.setIfInBounds_toArray, List.set_cons_zero, List.set_cons_succ]
        have hDc := Lib.hid (hDb.out.below hb12)
        clear hent hDb hb12 hHa hHb hes60 hesc nx ny mx my
        refine wpAnyH_take (i := 30) (oi := { dst := some 138, op := Op.unOp UnOp.not 4 (Operand.tmp 137), type := 4, pos := "law.go:152", after := #[{ on := 29, ground := Ground.data }, { on := 8, ground := Ground.guard }], guard := some (8, false) }) (v := ?vv30_25) rfl (by kernel_rfl) (by kernel_rfl) (by kernel_rfl) (fun _ _ _ h => h) (Or.inl ⟨by rfl, ?hy30_25⟩) hHc ?rest30_25
        case hy30_25 =>
          intro w hSw
          go_simp
          try with_reducible rfl
        try simp only [Act.put, List.setIfInBounds_toArray, List.set_cons_zero, List.set_cons_succ]
        refine wpAnyH_take (i := 31) (oi := { dst := some 139, op := Op.pick (Operand.tmp 116) (Operand.const (Value.bool true)) (Operand.tmp 138), type := 4, pos := "law.go:152", after := #[{ on := 8, ground := Ground.data }, { on := 30, ground := Ground.data }], guard := none }) (v := ?vv31_26) rfl (by kernel_rfl) (by kernel_rfl) (by kernel_rfl) (fun _ _ _ h => h) (Or.inl ⟨by rfl, ?hy31_26⟩) hHc ?rest31_26
        case hy31_26 =>
          intro w hSw
          go_simp
          try with_reducible rfl
        try simp only [Act.put, List.setIfInBounds_toArray, List.set_cons_zero, List.set_cons_succ]
        refine wpAnyH_done (by kernel_rfl) ?_ _
        clear hHc hEvC hval' hp hq hnd hok
        have htx : ∀ {w2 lb v W every sv ss c}, LogP w w2 lb v W every sv ss ((PL.cut nd).back p) c → total ss = ((PL.cut nd).back p).es.length := fun h => by rw [← toldAll_length, h.2]
        have hallx := lgAll_any hE'.out hT'.out hDc.out.x.1.base hDc.out.x.1.of (hDc.out.x.1.may (by omega))
        rw [hDc.out.x.2, htx hDc.out.x] at hallx
        have hes60 : ((PL.cut nd).back p).es.length ≤ 1000000 := by rw [← htx hDc.out.x]; have := hDc.out.x.1.cnt; omega
        go_wp2_with fail
        refine hallx.mono ?_
        rintro e wA ⟨aA, cA, rfl, hqA⟩
        obtain ⟨LX, gx1, gx2, gx3, -⟩ := hqA.out
        have hDA := Lib.hid (hDc.out.below gx3)
        have hgx2 := Lib.hid gx2
        have hgx1 := Lib.hid gx1
        have hally := lgAll_any hE'.out hT'.out hDA.out.y.1.base hDA.out.y.1.of (hDA.out.y.1.may (by omega))
        rw [hDA.out.y.2, htx hDA.out.y] at hally
        clear hallx hqA gx1 gx2 gx3 hDc htx
        go_wp2_with fail
        refine hally.mono ?_
        rintro e wB ⟨aB, cB, rfl, hqB⟩
        obtain ⟨LY, gy1, gy2, gy3, -⟩ := hqB.out
        have hDB := Lib.hid (hDA.out.below gy3)
        have hent := l10entries_same (hgx2.out.below gy3) gy2 (by rw [hgx1.out, gy1]) (by have := congrArg List.length hgx1.out; simp at this; omega)
        clear hally hqB gy1 gy2 gy3 hDA hgx1 hgx2
        go_wp2_with fail
        refine hent.mono ?_
        rintro e wC ⟨rfl, hbC⟩
        have hDC := Lib.hid (hDB.out.below hbC)
        clear hent hbC hDB
        have heql : ∀ w, Sem.run Tryz.prog (binOp .eql 34 (.agg (encSt ((PL.cut nd).back p).st).toArray) (.agg (encSt ((PL.cut nd).back p).st).toArray)) w = .ok (.bool true) w := fun w => eqlS_same _ w
        have hSx := lgState_any hDC.out.x.1.of
        have hSy : Hid (∀ w', Below wC.heap.size wC w' → Calls Tryz.prog 13 #[.pointer (some ⟨ly, 0, none⟩)] w' fun e w2 => e = .returned (.agg (encSt ((PL.cut nd).back p).st).toArray) ∧ Below w'.heap.size w' w2) := Lib.hid (fun w' h => lgState_any (hDC.out.y.1.below h).of)
        generalize encSt ((PL.cut nd).back p).st = cst at *
        go_wp2_with fail
        refine hSx.mono ?_
        rintro e wD ⟨rfl, hbD⟩
        have hSy' := hSy.out wD hbD
        have hDD := Lib.hid (hDC.out.below hbD)
        clear hSx hbD hSy hDC
        go_wp2_with fail
        refine hSy'.mono ?_
        rintro e wE ⟨rfl, hbE⟩
        have hDE := Lib.hid (hDD.out.below hbE)
        have hlx := Lib.hid hDE.out.x.1.n
        have hcx := Lib.hid hDE.out.x.1.cnt
        have hpx := Lib.hid hDE.out.x.1.of.pos
        have hpy := Lib.hid hDE.out.y.1.of.pos
        have hny := Lib.hid hDE.out.y.1.n
        have hcy := Lib.hid hDE.out.y.1.cnt
        obtain ⟨sxa, sxc, hsx, -⟩ := RowAt.shape hDE.out.x.1.of.rd.abv
        obtain ⟨sya, syc, hsy, -⟩ := RowAt.shape hDE.out.y.1.of.rd.abv
        have hKx := lgKept_any (by rw [← hsx]; exact hDE.out.x.1.of.x.c5) hpx.out
        have hLx := lgLen_any (by rw [← hsx]; exact hDE.out.x.1.of.x.c5) hpx.out hDE.out.x.1.of.x.c6
        have hKy := lgKept_any (by rw [← hsy]; exact hDE.out.y.1.of.x.c5) hpy.out
        have hBE := Lib.hid hDE.out.x.1.base
        clear hSy' hbE hDE hDD hsx hsy
        obtain ⟨nx, hnx⟩ : ∃ nx : Nat, r1y.length = nx := ⟨_, rfl⟩
        obtain ⟨tx, htx⟩ : ∃ tx : Nat, total r1y = tx := ⟨_, rfl⟩
        obtain ⟨ny, hny2⟩ : ∃ ny : Nat, r2y.length = ny := ⟨_, rfl⟩
        have d1 : (nx : Int) ≤ (tx : Int) + 1 := by have := hlx.out; omega
        have d2 : IntKind.i64.wrap ((tx : Int) + 1) = (tx : Int) + 1 := IntWalk.i64_in _ (by have := hcx.out; omega)
        have d3 : (1 : Int) ≤ (ny : Int) := by have := hpy.out; omega
        rw [hnx] at hKx
        rw [htx] at hLx
        rw [hny2] at hKy
        clear hlx hcx hpx hpy hny hcy hnx htx hny2
        go_wp2_with fail
        refine hKx.mono ?_
        rintro e wF ⟨rfl, rfl⟩
        clear hKx
        go_wp2_with fail
        refine hLx.mono ?_
        rintro e wF ⟨rfl, rfl⟩
        clear hLx
        go_wp2_with fail
        refine hKy.mono ?_
        rintro e wF ⟨rfl, rfl⟩
        clear hKy
        go_wp2
        go_ret
        exact ⟨rfl, hBE.out⟩
theorem lawLogKeeps {w : World} {v : Wv} {W : Wd} {eb : Addr} {ka : Option Addr} {kl kc : Nat} {bs : List Int} (hE : ErrIs w eb) (hT : ErrT w) (hW : Wds w v W) (t : Int) (ht : (Lit.int .u8 t).wf = true) (b : Int) (hb : (Lit.int .u8 b).wf = true) (e : Int) (he : (Lit.int .u8 e).wf = true) (f : Int) (hf : (Lit.int .u8 f).wf = true) (hK : Byts w ka kl kc bs) (hr : kl ≤ 140737488351232) (hn : NilP ka kl kc) :
    Calls Tryz.prog 4 #[v.val W, .slice ka kl kc, .int .u8 t, .int .u8 b, .int .u8 e, .int .u8 f] w fun e w' => e = .returned (.bool true) ∧ Below w.heap.size w w' := by
  by_cases hc : checkW W = 0
  · exact keeps_go (u8_rng ht) (u8_rng hb) (u8_rng he) (u8_rng hf) hW hE hT hc hK
  · exact keeps_bad (u8_rng he) (u8_rng hf) hW hE hT hc
end Go.Proofs.YtminfmjgmmkaoaaGreatDoor
