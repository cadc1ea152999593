/-
  The tree's functions that only exchange: size, swap, raise, least, sink; over every program that bears their bodies, at elements of k cells.
-/
import Derived.Test.YtjlbkdghlijoeaaGreatHP
import Derived.Test.YtjlbkdghlijoeaaGreatRows
import Derived.Shelf.SlSortCmp.KitK
import Derived.Shelf.SlSortCmp.QuietGrown
import Derived.Shelf.RegionOpen
import Derived.LoopTactic
import Derived.BigRegion
import Derived.Deep.DeepCutAuto
import Derived.Outline
namespace Go.Proofs.YtjlbkdghlijoeaaGreat
open Go.Shelf Go.RowKit Go.Lib Go.Sort
set_option linter.unusedVariables false

/-- What the walks ask of a program: the bodies, and its types. -/
structure TLay (P : Program) (k : Nat) : Prop where
  mixed : P.follows .mixedOrders = true
  fBefore : P.funcs[34]? = some Tryz.f34
  fsize : P.funcs[69]? = some Tryz.f69
  fswap : P.funcs[83]? = some Tryz.f83
  fraise : P.funcs[82]? = some Tryz.f82
  fleast : P.funcs[85]? = some Tryz.f85
  fsink : P.funcs[84]? = some Tryz.f84
  t0 : P.underlying 0 = some (TypeDesc.tuple #[])
  a0 : ∀ w, (isAgg 0).run P w = .ok false w
  z0 : ∀ w, (Go.sizeOf 0).run P w = .ok 1 w
  v0 : ∀ w, (zeroValue 0).run P w = .ok (Value.tuple #[]) w
  t3 : P.underlying 3 = some (TypeDesc.int IntKind.i64)
  a3 : ∀ w, (isAgg 3).run P w = .ok false w
  z3 : ∀ w, (Go.sizeOf 3).run P w = .ok 1 w
  v3 : ∀ w, (zeroValue 3).run P w = .ok (Value.int IntKind.i64 0) w
  t4 : P.underlying 4 = some (TypeDesc.bool)
  a4 : ∀ w, (isAgg 4).run P w = .ok false w
  z4 : ∀ w, (Go.sizeOf 4).run P w = .ok 1 w
  v4 : ∀ w, (zeroValue 4).run P w = .ok (Value.bool false) w
  tS : P.underlying 38 = some (TypeDesc.slice 34)
  aS : ∀ w, (isAgg 38).run P w = .ok false w
  zS : ∀ w, (Go.sizeOf 38).run P w = .ok 1 w
  tP : P.underlying 80 = some (TypeDesc.pointer 83)
  aP : ∀ w, (isAgg 80).run P w = .ok false w
  zP : ∀ w, (Go.sizeOf 80).run P w = .ok 1 w
  tF : P.underlying 81 = Tryz.prog.underlying 81
  aF : ∀ w, (isAgg 81).run P w = .ok false w
  zF : ∀ w, (Go.sizeOf 81).run P w = .ok 1 w
  tT : P.underlying 83 = Tryz.prog.underlying 83
  rT : ∀ w, (underlying 83).run P w = .ok (TypeDesc.struct #[{ name := "items", type := 38, offset := 0, embedded := false, tag := "", pkgPath := "isochron/heap", byteOffset := 0 }, { name := "ahead", type := 81, offset := 1, embedded := false, tag := "", pkgPath := "isochron/heap", byteOffset := 24 }]) w
  tA : P.underlying 147 = Tryz.prog.underlying 147
  aA : ∀ w, (isAgg 147).run P w = .ok true w
  zA : ∀ w, (Go.sizeOf 147).run P w = .ok 2 w
  rA : ∀ w, (underlying 147).run P w = .ok (TypeDesc.array 2 3) w
  vA : ∀ w, (zeroValue 147).run P w = .ok (.agg #[.int .i64 0, .int .i64 0]) w
  x0 : ∀ (a b : Int) w, (Instr.index 147 (.agg #[.int .i64 a, .int .i64 b]) (.int .i64 0)).run P w = .ok (.int .i64 a) w
  x1 : ∀ (a b : Int) w, (Instr.index 147 (.agg #[.int .i64 a, .int .i64 b]) (.int .i64 1)).run P w = .ok (.int .i64 b) w
  aE : ∀ w, (isAgg 34).run P w = .ok true w
  zE : ∀ w, (Go.sizeOf 34).run P w = .ok k w

variable {P : Program} {α : Type} [Inhabited α] {k : Nat}

/-- The tree's two cells. -/
def TreeOf (w : World) (tb : Nat) (v : Value) : Prop := w.heap[tb]? = some (.cells #[v, .func (.func 34) #[] #[]] 83)
theorem TreeOf.c0 {w : World} {tb : Nat} {v : Value} (h : TreeOf w tb v) : w.cell? ⟨tb, 0, none⟩ = some v := by unfold TreeOf at h; simp [World.cell?, h]
theorem TreeOf.c1 {w : World} {tb : Nat} {v : Value} (h : TreeOf w tb v) : w.cell? ⟨tb, 1, none⟩ = some (.func (.func 34) #[] #[]) := by unfold TreeOf at h; simp [World.cell?, h]
theorem TreeOf.fz {w : World} {tb : Nat} {v : Value} (h : TreeOf w tb v) (o : Nat) : w.frozen? ⟨tb, o, none⟩ = false := by unfold TreeOf at h; simp [World.frozen?, h]
theorem TreeOf.lt {w : World} {tb : Nat} {v : Value} (h : TreeOf w tb v) : tb < w.heap.size := (Array.getElem?_eq_some_iff.1 h).1

/-- What of a world of the row's stays as it was. -/
theorem swk_block {enc : α → List Value} {w0 w : World} {blk off : Nat} {d : Array α} (S : SWK enc k w0 blk off d w) (j : Nat) (hj : j < w0.heap.size) (hne : j ≠ blk) : w.heap[j]? = w0.heap[j]? := by
  obtain ⟨n, os, rfl⟩ := S
  unfold sortWorldK putRowK
  rw [heap_grow_old _ _ (by simpa using hj)]
  have : blk ≠ j := fun e => hne e.symm
  simp [putRow, mapBlock, Sort.ahead, Array.getElem?_modify, this]
theorem swk_row {enc : α → List Value} {w0 w : World} {blk off : Nat} {d : Array α} (S : SWK enc k w0 blk off d w) {cur : Array Value} {e : TypeId} {fr : Nat × Nat} (h : w0.heap[blk]? = some (.cells cur e fr)) :
    ∃ cur', w.heap[blk]? = some (.cells cur' e fr) ∧ cur'.size = cur.size := by
  obtain ⟨n, os, rfl⟩ := S
  have hg : blk < w0.heap.size := (Array.getElem?_eq_some_iff.1 h).1
  unfold sortWorldK putRowK
  rw [heap_grow_old _ _ (by simpa using hg)]
  refine ⟨putCells id off (flatK enc k d) cur, ?_, by simp [putCells]⟩
  simp [putRow, mapBlock, Sort.ahead, Array.getElem?_modify, h, onCells]
theorem swk_grown {enc : α → List Value} {w0 w : World} {blk off : Nat} {d : Array α} (S : SWK enc k w0 blk off d w) : w0.grownBy w (some blk) := by
  have h1 := S.le
  have h2 := fun j hj hne => swk_block S j hj hne
  obtain ⟨n, os, rfl⟩ := S
  exact ⟨rfl, rfl, rfl, h1, fun j hj hne => h2 j hj (fun e => hne (by rw [e]))⟩
theorem TreeOf.swk {enc : α → List Value} {w0 w : World} {blk off tb : Nat} {d : Array α} {v : Value} (h : TreeOf w0 tb v) (S : SWK enc k w0 blk off d w) (hne : tb ≠ blk) : TreeOf w tb v := (swk_block S tb h.lt hne).trans h

theorem tsize_any (L : TLay P k) (tb : Nat) (a : Option Addr) (n cap : Nat) (w : World) (hc : w.cell? ⟨tb, 0, none⟩ = some (.slice a n cap)) :
    Calls P 69 #[.pointer (some ⟨tb, 0, none⟩)] w fun e w' => e = .returned (.int .i64 n) ∧ w = w' := by
  have mixed := L.mixed; have t3 := L.t3; have a3 := L.a3; have z3 := L.z3; have v3 := L.v3; have t4 := L.t4; have a4 := L.a4; have z4 := L.z4; have v4 := L.v4; have tS := L.tS; have aS := L.aS; have zS := L.zS; have tP := L.tP; have aP := L.aP; have zP := L.zP; have rT := L.rT; have aF := L.aF; have zF := L.zF; have v0 := L.v0; have a0 := L.a0; have t0 := L.t0; have z0 := L.z0; have aE := L.aE; have zE := L.zE
  have FG := L.fsize
  go_enter FG, Tryz.ntmps69
  go_wp2
  go_ret
  exact ⟨rfl, rfl⟩

set_option maxHeartbeats 4000000 in
set_option maxRecDepth 1000000 in
theorem tswap_any (L : TLay P k) (enc : α → List Value) (tb blk off cap i j : Nat) (d0 d : Array α) (w0 w : World)
    (R : RowK enc k w0 blk off d0) (hs : d0.size = d.size) (S : SWK enc k w0 blk off d w) (hT : TreeOf w0 tb (.slice (some ⟨blk, off, none⟩) d.size cap)) (hne : tb ≠ blk) (hi : i < d.size) (hj : j < d.size) (hsz : d.size < 1152921504606846976) :
    Calls P 83 #[.pointer (some ⟨tb, 0, none⟩), .int .i64 i, .int .i64 j] w fun e w' => e = .returned (.tuple #[]) ∧ SWK enc k w0 blk off (swp d i j) w' := by
  have mixed := L.mixed; have t3 := L.t3; have a3 := L.a3; have z3 := L.z3; have v3 := L.v3; have t4 := L.t4; have a4 := L.a4; have z4 := L.z4; have v4 := L.v4; have tS := L.tS; have aS := L.aS; have zS := L.zS; have tP := L.tP; have aP := L.aP; have zP := L.zP; have rT := L.rT; have aF := L.aF; have zF := L.zF; have v0 := L.v0; have a0 := L.a0; have t0 := L.t0; have z0 := L.z0; have aE := L.aE; have zE := L.zE
  have FG := L.fswap
  have ea : ((i : Int)).toNat = i := by omega
  have pa : (0 : Int) ≤ (i : Int) := by omega
  have ba : (i : Int) < (d.size : Int) := by omega
  have ec : ((j : Int)).toNat = j := by omega
  have pc : (0 : Int) ≤ (j : Int) := by omega
  have bc : (j : Int) < (d.size : Int) := by omega
  have hT1 := hT.swk S hne
  have S2 : Aside (SWK enc k w0 blk off (swp d i j) ((w.drew.setCells blk (off + i * k) (enc d[j]!)).setCells blk (off + j * k) (enc d[i]!))) := S.swapped R i j hi hj
  have c0 := hT1.c0
  have la := S.ld1 R hs.symm P i hi
  have lb := S.ld1 R hs.symm P j hj
  have sa := S.st1 R hs.symm P i hi d[j]!
  have sb := S.st2 R hs.symm P i j hi hj d[j]! d[i]!
  have na : (enc d[i]!).length = k := R.hk _
  have nb : (enc d[j]!).length = k := R.hk _
  generalize enc d[i]! = cI at S2 la sb na
  generalize enc d[j]! = cJ at S2 lb sa sb nb
  clear S hT hT1 R hs
  go_enter FG, Tryz.ntmps83
  go_wp2_with fail
  go_big_region_o
  clear la lb sa sb
  generalize (w.drew.setCells blk (off + i * k) cJ).setCells blk (off + j * k) cI = w2 at S2 ⊢
  go_wp2
  go_end0
  exact ⟨rfl, S2⟩

/-- A call that only reads, met in a world of the class. -/
theorem Calls.still_of {P : Program} {f : FuncId} {args : Array Value} {w : World} {v : Value}
    (h : Calls P f args w fun e w' => e = .returned v ∧ w = w') : Calls P f args w fun e w' => e = .returned v ∧ ∃ q os', w' = grow (w.drewN q) os' :=
  h.mono fun _ _ ⟨he, hw⟩ => ⟨he, 0, #[], by rw [← hw, grow_empty]; rfl⟩

/-- What is asked of the comparison. -/
def Aheads (P : Program) (enc : α → List Value) (lt : α → α → Bool) : Prop :=
  ∀ x y w, Calls P 34 #[.agg (enc x).toArray, .agg (enc y).toArray] w fun e w' => e = .returned (.bool (lt x y)) ∧ ∃ q os', w' = grow (w.drewN q) os'

set_option maxHeartbeats 4000000 in
set_option maxRecDepth 1000000 in
theorem traise_any (L : TLay P k) (enc : α → List Value) (lt : α → α → Bool) (hlt : Aheads P enc lt) (tb blk off cap p N : Nat) (d0 d : Array α) (w0 w : World)
    (R : RowK enc k w0 blk off d0) (hs : d0.size = N) (hd : d.size = N) (S : SWK enc k w0 blk off d w) (hT : TreeOf w0 tb (.slice (some ⟨blk, off, none⟩) N cap)) (hne : tb ≠ blk) (hp : p < N) (hsz : N < 1152921504606846976) :
    Calls P 82 #[.pointer (some ⟨tb, 0, none⟩), .int .i64 p] w fun e w' => e = .returned (.tuple #[]) ∧ SWK enc k w0 blk off (raiseA lt d p) w' := by
  have mixed := L.mixed; have t3 := L.t3; have a3 := L.a3; have z3 := L.z3; have v3 := L.v3; have t4 := L.t4; have a4 := L.a4; have z4 := L.z4; have v4 := L.v4; have tS := L.tS; have aS := L.aS; have zS := L.zS; have tP := L.tP; have aP := L.aP; have zP := L.zP; have rT := L.rT; have aF := L.aF; have zF := L.zF; have v0 := L.v0; have a0 := L.a0; have t0 := L.t0; have z0 := L.z0; have aE := L.aE; have zE := L.zE
  have FG := L.fraise
  have e20 : ∀ args w, (callFunc 34 args).run P w = .ok (.enter 34 args) w := enters_of L.fBefore (by kernel_rfl) rfl
  have e49 : ∀ args w, (callFunc 83 args).run P w = .ok (.enter 83 args) w := enters_of L.fswap (by kernel_rfl) rfl
  have S0 : Aside (SWK enc k w0 blk off d w) := S
  have HD : Hid (d.size = N) := hd
  have HL : Hid (Aheads P enc lt) := hlt
  clear S hd hlt
  go_enter FG, Tryz.ntmps82
  go_wp2
  go_loopg [1] p (fun kx s1 wr => ∃ (q : Nat) (e : Array α), s1 = .int .i64 q ∧ q ≤ kx ∧ q < N ∧ Hid (e.size = N) ∧ Hid (raiseA lt e q = raiseA lt d p) ∧ Aside (SWK enc k w0 blk off e wr))
  case atStart => exact ⟨p, d, rfl, Nat.le_refl _, hp, HD, rfl, S0⟩
  case round =>
    clear S0
    obtain ⟨q, e, rfl, hkx, hq, HE, HR, S1⟩ := hrel
    by_cases h0 : 0 < q
    · have hz : (0 : Int) < (q : Int) := by omega
      obtain ⟨a, ha⟩ : ∃ a : Nat, ((q : Int) - 1) / 2 = a := ⟨(q - 1) / 2, by omega⟩
      have ha' : Hid (a = (q - 1) / 2) := by show _ = _; omega
      have haq : a < q := by omega
      go_upto_region 2 with (fail)
      rw [ha]
      clear ha
      have ea5 : ((q : Int)).toNat = q := by omega
      have pa5 : (0 : Int) ≤ (q : Int) := by omega
      have ba5 : (q : Int) < (N : Int) := by omega
      have ec5 : ((a : Int)).toNat = a := by omega
      have pc5 : (0 : Int) ≤ (a : Int) := by omega
      have bc5 : (a : Int) < (N : Int) := by omega
      obtain ⟨x5, hx5⟩ : ∃ x, x = e[q]! := ⟨_, rfl⟩
      obtain ⟨y5, hy5⟩ : ∃ x, x = e[a]! := ⟨_, rfl⟩
      have l5a := S1.out.ld R (by rw [HE.out, hs]) P q (by rw [HE.out]; exact hq)
      have l5b := S1.out.ld R (by rw [HE.out, hs]) P a (by rw [HE.out]; omega)
      rw [← hx5] at l5a
      rw [← hy5] at l5b
      have hT1 := hT.swk S1.out hne
      have c0 := fun n os => cell_grown (w := wr) hT1.lt hT1.c0 n os
      have c1 := fun n os => cell_grown (w := wr) hT1.lt hT1.c1 n os
      have hc5 := fun n os => HL.out x5 y5 (grow (wr.drewN n) os)
      have hst : Hid (lt x5 y5 = lt e[q]! e[(q - 1) / 2]!) := by show _ = _; rw [hx5, hy5, ha'.out]
      clear hx5 hy5 hT1
      cases hb : lt x5 y5 with
      | true =>
        rw [hb] at hst hc5
        go_quiet_grown (first | (go_at_fn 34; refine Calls.grown_of (hc5 _ _)))
        have S2 : Aside (SWK enc k w0 blk off e (grow (wr.drewN nq) osq)) := S1.out.grown nq osq
        clear l5a l5b hc5 S1 c0 c1 hb
        generalize grow (wr.drewN nq) osq = w2 at S2 ⊢
        clear nq osq
        have hsw := tswap_any L enc tb blk off cap q a d0 e w0 w2 R (by rw [HE.out, hs]) S2.out (by rw [HE.out]; exact hT) hne (by rw [HE.out]; exact hq) (by rw [HE.out]; omega) (by rw [HE.out]; exact hsz)
        go_wp2_with (go_at_fn 83; refine hsw.mono ?_; rintro e1 w3 ⟨rfl, S3⟩)
        go_roundg a
        case measure => omega
        case rel =>
          refine ⟨a, swp e q a, rfl, Nat.le_refl _, by omega, ?_, ?_, S3⟩
          · show _ = _; rw [size_swp, HE.out]
          · show _ = _
            rw [← HR.out, raiseA_yes h0 hst.out.symm, ha'.out]
      | false =>
        rw [hb] at hst hc5
        go_quiet_grown (first | (go_at_fn 34; refine Calls.grown_of (hc5 _ _)))
        have S2 : Aside (SWK enc k w0 blk off e (grow (wr.drewN nq) osq)) := S1.out.grown nq osq
        clear l5a l5b hc5 S1 c0 c1 hb
        generalize grow (wr.drewN nq) osq = w2 at S2 ⊢
        clear nq osq
        go_wp2
        refine bodyPost_ret (results_none rfl _ _ _) rfl ?_
        refine ⟨rfl, ?_⟩
        rw [← HR.out, raiseA_no h0 hst.out.symm]
        exact S2.out
    · have hz : ¬ (0 : Int) < (q : Int) := by omega
      go_wp2
      go_end0
      refine ⟨rfl, ?_⟩
      rw [← HR.out]
      obtain rfl : q = 0 := by omega
      rw [raiseA_zero]
      exact S1.out

end Go.Proofs.YtjlbkdghlijoeaaGreat
