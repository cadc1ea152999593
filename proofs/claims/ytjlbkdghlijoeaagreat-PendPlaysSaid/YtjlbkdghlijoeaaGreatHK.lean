/-
  The tree's least; over every program that bears their bodies, at elements of k cells.
  The tree's sink; over every program that bears its body, at elements of k cells.
-/
import Derived.Test.YtjlbkdghlijoeaaGreatHT
import Derived.BigQuiet
namespace Go.Proofs.YtjlbkdghlijoeaaGreat
open Go.Shelf Go.RowKit Go.Lib Go.Sort
set_option linter.unusedVariables false
variable {P : Program} {α : Type} [Inhabited α] {k : Nat}

/-- The least of the first i + 1 of the three. -/
def leastN (lt : α → α → Bool) (d : Array α) (p : Nat) : Nat → Nat
  | 0 => p
  | i + 1 => if 2 * p + (i + 1) < d.size ∧ lt d[2 * p + (i + 1)]! d[leastN lt d p i]! = true then 2 * p + (i + 1) else leastN lt d p i
theorem leastN_two (lt : α → α → Bool) (d : Array α) (p : Nat) : leastN lt d p 2 = leastA lt d p := rfl
theorem leastN_lt (lt : α → α → Bool) (d : Array α) (p : Nat) (hp : p < d.size) : ∀ i, leastN lt d p i < d.size
  | 0 => hp
  | i + 1 => by
    unfold leastN
    split
    · rename_i h; exact h.1
    · exact leastN_lt lt d p hp i

set_option maxHeartbeats 1500000 in
set_option maxRecDepth 1000000 in
theorem tleast_any (L : TLay P k) (enc : α → List Value) (lt : α → α → Bool) (hlt : Aheads P enc lt) (tb blk off cap p N : Nat) (d0 d : Array α) (w0 w : World)
    (R : RowK enc k w0 blk off d0) (hs : d0.size = N) (hd : d.size = N) (S : SWK enc k w0 blk off d w) (hT : TreeOf w0 tb (.slice (some ⟨blk, off, none⟩) N cap)) (hne : tb ≠ blk) (hp : p < N) (hsz : N < 1152921504606846976) :
    Calls P 85 #[.pointer (some ⟨tb, 0, none⟩), .int .i64 p] w fun e w' => e = .returned (.int .i64 (leastA lt d p : Nat)) ∧ SWK enc k w0 blk off d w' := by
  have mixed := L.mixed; have t3 := L.t3; have a3 := L.a3; have z3 := L.z3; have v3 := L.v3; have t4 := L.t4; have a4 := L.a4; have z4 := L.z4; have v4 := L.v4; have tS := L.tS; have aS := L.aS; have zS := L.zS; have tP := L.tP; have aP := L.aP; have zP := L.zP; have rT := L.rT; have aF := L.aF; have zF := L.zF; have v0 := L.v0; have a0 := L.a0; have t0 := L.t0; have z0 := L.z0; have aE := L.aE; have zE := L.zE; have tA := L.tA.trans Tryz.underlying147; have aA := L.aA; have zA := L.zA; have rA := L.rA; have vA := L.vA; have x0 := L.x0; have x1 := L.x1
  have FG := L.fleast
  have e20 : ∀ args w, (callFunc 34 args).run P w = .ok (.enter 34 args) w := enters_of L.fBefore (by kernel_rfl) rfl
  have e26 : ∀ args w, (callFunc 69 args).run P w = .ok (.enter 69 args) w := enters_of L.fsize (by kernel_rfl) rfl
  have S0 : Aside (SWK enc k w0 blk off d w) := S
  have HD : Hid (d.size = N) := hd
  have HL : Hid (Aheads P enc lt) := hlt
  obtain ⟨b1, hb1⟩ : ∃ b1 : Nat, 2 * (p : Int) + 1 = b1 := ⟨2 * p + 1, by omega⟩
  obtain ⟨b2, hb2⟩ : ∃ b2 : Nat, 2 * (p : Int) + 2 = b2 := ⟨2 * p + 2, by omega⟩
  have hb1' : Hid (b1 = 2 * p + (0 + 1)) := by show _ = _; omega
  have hb2' : Hid (b2 = 2 * p + (1 + 1)) := by show _ = _; omega
  have hb1s : b1 < 2305843009213693952 := by omega
  have hb2s : b2 < 2305843009213693954 := by omega
  clear S hd hlt
  go_enter FG, Tryz.ntmps85
  go_wp2_with fail
  try rw [hb1]
  try rw [hb2]
  clear hb1 hb2
  go_loopg [16, 5] 2 (fun kx s16 s5 wr => ∃ (i l : Nat), s16 = .int .i64 i ∧ s5 = .int .i64 l ∧ i + kx = 2 ∧ Hid (l = leastN lt d p i) ∧ Aside (SWK enc k w0 blk off d wr))
  case atStart => exact ⟨0, p, rfl, rfl, rfl, rfl, S0⟩
  case round =>
    clear S0
    obtain ⟨i, l, rfl, rfl, hkx, HLe, S1⟩ := hrel
    by_cases h2 : i < 2
    · have hz : (i : Int) < 2 := by omega
      have hlN : l < N := by rw [HLe.out, ← HD.out]; exact leastN_lt lt d p (by rw [HD.out]; exact hp) i
      rcases (by omega : i = 0 ∨ i = 1) with rfl | rfl
      · have hby : Hid (b1 = 2 * p + (0 + 1)) := hb1'
        have hbs' : b1 < 2305843009213693954 := by omega
        go_upto_region 5 with (fail)
        by_cases hbN : b1 < N
        · have hzN : decide ((b1 : Int) < (N : Int)) = true := by simp; omega
          have ea5 : ((b1 : Int)).toNat = b1 := by omega
          have pa5 : (0 : Int) ≤ (b1 : Int) := by omega
          have ba5 : (b1 : Int) < (N : Int) := by omega
          have ec5 : ((l : Int)).toNat = l := by omega
          have pc5 : (0 : Int) ≤ (l : Int) := by omega
          have bc5 : (l : Int) < (N : Int) := by omega
          obtain ⟨x5, hx5⟩ : ∃ x, x = d[b1]! := ⟨_, rfl⟩
          obtain ⟨y5, hy5⟩ : ∃ x, x = d[l]! := ⟨_, rfl⟩
          have l5a := S1.out.ld R (by rw [HD.out, hs]) P b1 (by rw [HD.out]; exact hbN)
          have l5b := S1.out.ld R (by rw [HD.out, hs]) P l (by rw [HD.out]; exact hlN)
          rw [← hx5] at l5a
          rw [← hy5] at l5b
          have hT1 := hT.swk S1.out hne
          have c0 := fun n os => cell_grown (w := wr) hT1.lt hT1.c0 n os
          have c1 := fun n os => cell_grown (w := wr) hT1.lt hT1.c1 n os
          have hc5 := fun n os => HL.out x5 y5 (grow (wr.drewN n) os)
          have hc6 := fun n os => Calls.still_of (tsize_any L tb _ N cap (grow (wr.drewN n) os) (c0 n os))
          have hst : Hid (lt x5 y5 = lt d[2 * p + (0 + 1)]! d[leastN lt d p 0]!) := by show _ = _; rw [hx5, hy5, HLe.out, ← hby.out]
          clear hx5 hy5 hT1
          cases hb : lt x5 y5 with
          | true =>
            rw [hb] at hst hc5
            refine wp_region_quiet_grown (by assumption) (by kernel_rfl) ?_
            repeat (first | go_big_quiet_step (first | (go_at_fn 34; refine Calls.grown_of (hc5 _ _)) | (go_at_fn 69; refine Calls.grown_of (hc6 _ _))) | quiet_step (first | (go_at_fn 34; refine Calls.grown_of (hc5 _ _)) | (go_at_fn 69; refine Calls.grown_of (hc6 _ _))))
            refine wpQuiet_nil ?_
            intro _ hw'
            obtain ⟨⟨nq, osq⟩, hw''⟩ := hw'
            subst hw''
            have S2 : Aside (SWK enc k w0 blk off d (grow (wr.drewN nq) osq)) := S1.out.grown nq osq
            clear l5a l5b hc5 hc6 S1 c0 c1 hb
            generalize grow (wr.drewN nq) osq = w2 at S2 ⊢
            clear nq osq
            go_wp2
            go_roundg (2 - (0 + 1))
            case measure => omega
            case rel =>
              refine ⟨0 + 1, b1, by simp, rfl, by omega, ?_, S2⟩
              show _ = leastN lt d p (0 + 1)
              rw [leastN, if_pos ⟨by rw [HD.out, ← hby.out]; exact hbN, hst.out.symm⟩, hby.out]
          | false =>
            rw [hb] at hst hc5
            refine wp_region_quiet_grown (by assumption) (by kernel_rfl) ?_
            repeat (first | go_big_quiet_step (first | (go_at_fn 34; refine Calls.grown_of (hc5 _ _)) | (go_at_fn 69; refine Calls.grown_of (hc6 _ _))) | quiet_step (first | (go_at_fn 34; refine Calls.grown_of (hc5 _ _)) | (go_at_fn 69; refine Calls.grown_of (hc6 _ _))))
            refine wpQuiet_nil ?_
            intro _ hw'
            obtain ⟨⟨nq, osq⟩, hw''⟩ := hw'
            subst hw''
            have S2 : Aside (SWK enc k w0 blk off d (grow (wr.drewN nq) osq)) := S1.out.grown nq osq
            clear l5a l5b hc5 hc6 S1 c0 c1 hb
            generalize grow (wr.drewN nq) osq = w2 at S2 ⊢
            clear nq osq
            go_wp2
            go_roundg (2 - (0 + 1))
            case measure => omega
            case rel =>
              refine ⟨0 + 1, l, by simp, rfl, by omega, ?_, S2⟩
              show _ = leastN lt d p (0 + 1)
              rw [leastN, if_neg (fun h => by rw [← hst.out] at h; cases h.2), HLe.out]
        · have hzN : decide ((b1 : Int) < (N : Int)) = false := by simp; omega
          have hzN' : decide (b1 < N) = false := by simp; omega
          have hT1 := hT.swk S1.out hne
          have c0 := fun n os => cell_grown (w := wr) hT1.lt hT1.c0 n os
          have hc6 := fun n os => Calls.still_of (tsize_any L tb _ N cap (grow (wr.drewN n) os) (c0 n os))
          clear hT1
          refine wp_region_quiet_grown (by assumption) (by kernel_rfl) ?_
          repeat (first | go_big_quiet_step (first | (go_at_fn 69; refine Calls.grown_of (hc6 _ _))) | quiet_step (first | (go_at_fn 69; refine Calls.grown_of (hc6 _ _))))
          refine wpQuiet_nil ?_
          intro _ hw'
          obtain ⟨⟨nq, osq⟩, hw''⟩ := hw'
          subst hw''
          have S2 : Aside (SWK enc k w0 blk off d (grow (wr.drewN nq) osq)) := S1.out.grown nq osq
          clear hc6 S1 c0
          generalize grow (wr.drewN nq) osq = w2 at S2 ⊢
          clear nq osq
          go_wp2
          go_roundg (2 - (0 + 1))
          case measure => omega
          case rel =>
            refine ⟨0 + 1, l, by simp, rfl, by omega, ?_, S2⟩
            show _ = leastN lt d p (0 + 1)
            rw [leastN, if_neg (fun h => by rw [HD.out, ← hby.out] at h; exact hbN h.1), HLe.out]
      · have hby : Hid (b2 = 2 * p + (1 + 1)) := hb2'
        have hbs' : b2 < 2305843009213693954 := by omega
        go_upto_region 5 with (fail)
        by_cases hbN : b2 < N
        · have hzN : decide ((b2 : Int) < (N : Int)) = true := by simp; omega
          have ea5 : ((b2 : Int)).toNat = b2 := by omega
          have pa5 : (0 : Int) ≤ (b2 : Int) := by omega
          have ba5 : (b2 : Int) < (N : Int) := by omega
          have ec5 : ((l : Int)).toNat = l := by omega
          have pc5 : (0 : Int) ≤ (l : Int) := by omega
          have bc5 : (l : Int) < (N : Int) := by omega
          obtain ⟨x5, hx5⟩ : ∃ x, x = d[b2]! := ⟨_, rfl⟩
          obtain ⟨y5, hy5⟩ : ∃ x, x = d[l]! := ⟨_, rfl⟩
          have l5a := S1.out.ld R (by rw [HD.out, hs]) P b2 (by rw [HD.out]; exact hbN)
          have l5b := S1.out.ld R (by rw [HD.out, hs]) P l (by rw [HD.out]; exact hlN)
          rw [← hx5] at l5a
          rw [← hy5] at l5b
          have hT1 := hT.swk S1.out hne
          have c0 := fun n os => cell_grown (w := wr) hT1.lt hT1.c0 n os
          have c1 := fun n os => cell_grown (w := wr) hT1.lt hT1.c1 n os
          have hc5 := fun n os => HL.out x5 y5 (grow (wr.drewN n) os)
          have hc6 := fun n os => Calls.still_of (tsize_any L tb _ N cap (grow (wr.drewN n) os) (c0 n os))
          have hst : Hid (lt x5 y5 = lt d[2 * p + (1 + 1)]! d[leastN lt d p 1]!) := by show _ = _; rw [hx5, hy5, HLe.out, ← hby.out]
          clear hx5 hy5 hT1
          cases hb : lt x5 y5 with
          | true =>
            rw [hb] at hst hc5
            refine wp_region_quiet_grown (by assumption) (by kernel_rfl) ?_
            repeat (first | go_big_quiet_step (first | (go_at_fn 34; refine Calls.grown_of (hc5 _ _)) | (go_at_fn 69; refine Calls.grown_of (hc6 _ _))) | quiet_step (first | (go_at_fn 34; refine Calls.grown_of (hc5 _ _)) | (go_at_fn 69; refine Calls.grown_of (hc6 _ _))))
            refine wpQuiet_nil ?_
            intro _ hw'
            obtain ⟨⟨nq, osq⟩, hw''⟩ := hw'
            subst hw''
            have S2 : Aside (SWK enc k w0 blk off d (grow (wr.drewN nq) osq)) := S1.out.grown nq osq
            clear l5a l5b hc5 hc6 S1 c0 c1 hb
            generalize grow (wr.drewN nq) osq = w2 at S2 ⊢
            clear nq osq
            go_wp2
            go_roundg (2 - (1 + 1))
            case measure => omega
            case rel =>
              refine ⟨1 + 1, b2, by simp, rfl, by omega, ?_, S2⟩
              show _ = leastN lt d p (1 + 1)
              rw [leastN, if_pos ⟨by rw [HD.out, ← hby.out]; exact hbN, hst.out.symm⟩, hby.out]
          | false =>
            rw [hb] at hst hc5
            refine wp_region_quiet_grown (by assumption) (by kernel_rfl) ?_
            repeat (first | go_big_quiet_step (first | (go_at_fn 34; refine Calls.grown_of (hc5 _ _)) | (go_at_fn 69; refine Calls.grown_of (hc6 _ _))) | quiet_step (first | (go_at_fn 34; refine Calls.grown_of (hc5 _ _)) | (go_at_fn 69; refine Calls.grown_of (hc6 _ _))))
            refine wpQuiet_nil ?_
            intro _ hw'
            obtain ⟨⟨nq, osq⟩, hw''⟩ := hw'
            subst hw''
            have S2 : Aside (SWK enc k w0 blk off d (grow (wr.drewN nq) osq)) := S1.out.grown nq osq
            clear l5a l5b hc5 hc6 S1 c0 c1 hb
            generalize grow (wr.drewN nq) osq = w2 at S2 ⊢
            clear nq osq
            go_wp2
            go_roundg (2 - (1 + 1))
            case measure => omega
            case rel =>
              refine ⟨1 + 1, l, by simp, rfl, by omega, ?_, S2⟩
              show _ = leastN lt d p (1 + 1)
              rw [leastN, if_neg (fun h => by rw [← hst.out] at h; cases h.2), HLe.out]
        · have hzN : decide ((b2 : Int) < (N : Int)) = false := by simp; omega
          have hzN' : decide (b2 < N) = false := by simp; omega
          have hT1 := hT.swk S1.out hne
          have c0 := fun n os => cell_grown (w := wr) hT1.lt hT1.c0 n os
          have hc6 := fun n os => Calls.still_of (tsize_any L tb _ N cap (grow (wr.drewN n) os) (c0 n os))
          clear hT1
          refine wp_region_quiet_grown (by assumption) (by kernel_rfl) ?_
          repeat (first | go_big_quiet_step (first | (go_at_fn 69; refine Calls.grown_of (hc6 _ _))) | quiet_step (first | (go_at_fn 69; refine Calls.grown_of (hc6 _ _))))
          refine wpQuiet_nil ?_
          intro _ hw'
          obtain ⟨⟨nq, osq⟩, hw''⟩ := hw'
          subst hw''
          have S2 : Aside (SWK enc k w0 blk off d (grow (wr.drewN nq) osq)) := S1.out.grown nq osq
          clear hc6 S1 c0
          generalize grow (wr.drewN nq) osq = w2 at S2 ⊢
          clear nq osq
          go_wp2
          go_roundg (2 - (1 + 1))
          case measure => omega
          case rel =>
            refine ⟨1 + 1, l, by simp, rfl, by omega, ?_, S2⟩
            show _ = leastN lt d p (1 + 1)
            rw [leastN, if_neg (fun h => by rw [HD.out, ← hby.out] at h; exact hbN h.1), HLe.out]
    · have hz : ¬ (i : Int) < 2 := by omega
      obtain rfl : i = 2 := by omega
      have HQ : Hid (l = leastA lt d p) := HLe.out
      go_wp2
      go_ret
      exact ⟨congrArg (fun x : Nat => Ending.returned (.int .i64 (x : Int))) HQ.out, S1.out⟩

end Go.Proofs.YtjlbkdghlijoeaaGreat
namespace Go.Proofs.YtjlbkdghlijoeaaGreat
open Go.Shelf Go.RowKit Go.Lib Go.Sort
set_option linter.unusedVariables false
variable {P : Program} {α : Type} [Inhabited α] {k : Nat}

set_option maxHeartbeats 4000000 in
set_option maxRecDepth 1000000 in
theorem tsink_any (L : TLay P k) (enc : α → List Value) (lt : α → α → Bool) (O : Ord lt) (hlt : Aheads P enc lt) (tb blk off cap p N : Nat) (d0 d : Array α) (w0 w : World)
    (R : RowK enc k w0 blk off d0) (hs : d0.size = N) (hd : d.size = N) (S : SWK enc k w0 blk off d w) (hT : TreeOf w0 tb (.slice (some ⟨blk, off, none⟩) N cap)) (hne : tb ≠ blk) (hp : p < N) (hsz : N < 1152921504606846976) :
    Calls P 84 #[.pointer (some ⟨tb, 0, none⟩), .int .i64 p] w fun e w' => e = .returned (.tuple #[]) ∧ SWK enc k w0 blk off (sinkA lt d p) w' := by
  have mixed := L.mixed; have t3 := L.t3; have a3 := L.a3; have z3 := L.z3; have v3 := L.v3; have t4 := L.t4; have a4 := L.a4; have z4 := L.z4; have v4 := L.v4; have tP := L.tP; have aP := L.aP; have zP := L.zP; have v0 := L.v0; have a0 := L.a0; have t0 := L.t0; have z0 := L.z0
  have FG := L.fsink
  have e55 : ∀ args w, (callFunc 85 args).run P w = .ok (.enter 85 args) w := enters_of L.fleast (by kernel_rfl) rfl
  have e49 : ∀ args w, (callFunc 83 args).run P w = .ok (.enter 83 args) w := enters_of L.fswap (by kernel_rfl) rfl
  have S0 : Aside (SWK enc k w0 blk off d w) := S
  have HD : Hid (d.size = N) := hd
  have HL : Hid (Aheads P enc lt) := hlt
  have HO : Hid (Ord lt) := O
  clear S hd hlt O
  go_enter FG, Tryz.ntmps84
  go_wp2
  go_loopg [1] (N - p) (fun kx s1 wr => ∃ (q : Nat) (e : Array α), s1 = .int .i64 q ∧ N - q ≤ kx ∧ q < N ∧ Hid (e.size = N) ∧ Hid (sinkA lt e q = sinkA lt d p) ∧ Aside (SWK enc k w0 blk off e wr))
  case atStart => exact ⟨p, d, rfl, Nat.le_refl _, hp, HD, rfl, S0⟩
  case round =>
    clear S0
    obtain ⟨q, e, rfl, hkx, hq, HE, HR, S1⟩ := hrel
    have hlst := tleast_any L enc lt HL.out tb blk off cap q N d0 e w0 wr R hs HE.out S1.out hT hne hq hsz
    have hlc := leastA_cases (lt := lt) e q
    have hll : leastA lt e q < N := by have := leastA_lt (lt := lt) e q (by rw [HE.out]; exact hq); rwa [HE.out] at this
    obtain ⟨l, hl⟩ : ∃ l, l = leastA lt e q := ⟨_, rfl⟩
    rw [← hl] at hlst hlc hll
    have HLl : Hid (l = leastA lt e q) := hl
    clear hl S1
    by_cases hql : l = q
    · subst hql
      go_wp2_with (go_at_fn 85; refine hlst.mono ?_; rintro e1 w3 ⟨rfl, S3⟩)
      refine bodyPost_ret (results_none rfl _ _ _) rfl ?_
      refine ⟨rfl, ?_⟩
      rw [← HR.out, sinkA_stop HLl.out.symm]
      exact S3
    · have hz : ¬ (l : Int) = (q : Int) := by omega
      have hcont : ∀ w3, SWK enc k w0 blk off e w3 → Calls P 83 #[.pointer (some ⟨tb, 0, none⟩), .int .i64 q, .int .i64 l] w3 fun e1 w' => e1 = .returned (.tuple #[]) ∧ Aside (SWK enc k w0 blk off (swp e q l) w') :=
        fun w3 S3 => tswap_any L enc tb blk off cap q l d0 e w0 w3 R (by rw [HE.out, hs]) S3 (by rw [HE.out]; exact hT) hne (by rw [HE.out]; exact hq) (by rw [HE.out]; exact hll) (by rw [HE.out]; exact hsz)
      go_wp2_with (first | (go_at_fn 85; refine hlst.mono ?_; rintro e1 w3 ⟨rfl, S3⟩; have hsw := hcont w3 S3; clear S3) | (go_at_fn 83; refine hsw.mono ?_; rintro e1 w4 ⟨rfl, S4⟩))
      go_roundg (N - l)
      case measure => omega
      case rel =>
        refine ⟨l, swp e q l, rfl, Nat.le_refl _, hll, ?_, ?_, S4⟩
        · show _ = _; rw [size_swp, HE.out]
        · show _ = _
          refine Eq.trans ?_ HR.out
          rw [sinkA_go (d := e) (p := q) (by rw [HE.out]; exact hq) (by rw [← HLl.out]; exact hql), ← HLl.out]
end Go.Proofs.YtjlbkdghlijoeaaGreat
