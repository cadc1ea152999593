/-
  The tree's sink; over every program that bears its body, at elements of k cells.
-/
import Derived.Test.YtbalbachmeiehaaHS
namespace Go.Proofs.Ytbalbachmeiehaa
open Go.Shelf Go.RowKit Go.Lib Go.Sort
set_option linter.unusedVariables false
variable {P : Program} {α : Type} [Inhabited α] {k : Nat}

set_option maxHeartbeats 4000000 in
set_option maxRecDepth 1000000 in
theorem tsink_any (L : TLay P k) (enc : α → List Value) (lt : α → α → Bool) (O : Ord lt) (hlt : Aheads P enc lt) (tb blk off cap p N : Nat) (d0 d : Array α) (w0 w : World)
    (R : RowK enc k w0 blk off d0) (hs : d0.size = N) (hd : d.size = N) (S : SWK enc k w0 blk off d w) (hT : TreeOf w0 tb (.slice (some ⟨blk, off, none⟩) N cap)) (hne : tb ≠ blk) (hp : p < N) (hsz : N < 1152921504606846976) :
    Calls P 50 #[.pointer (some ⟨tb, 0, none⟩), .int .i64 p] w fun e w' => e = .returned (.tuple #[]) ∧ SWK enc k w0 blk off (sinkA lt d p) w' := by
  have mixed := L.mixed; have t3 := L.t3; have a3 := L.a3; have z3 := L.z3; have v3 := L.v3; have t4 := L.t4; have a4 := L.a4; have z4 := L.z4; have v4 := L.v4; have tP := L.tP; have aP := L.aP; have zP := L.zP; have v0 := L.v0; have a0 := L.a0; have t0 := L.t0; have z0 := L.z0
  have FG := L.fsink
  have e55 : ∀ args w, (callFunc 55 args).run P w = .ok (.enter 55 args) w := enters_of L.fleast (by kernel_rfl) rfl
  have e49 : ∀ args w, (callFunc 49 args).run P w = .ok (.enter 49 args) w := enters_of L.fswap (by kernel_rfl) rfl
  have S0 : Aside (SWK enc k w0 blk off d w) := S
  have HD : Hid (d.size = N) := hd
  have HL : Hid (Aheads P enc lt) := hlt
  have HO : Hid (Ord lt) := O
  clear S hd hlt O
  go_enter FG, Try.ntmps50
  go_wp2
  go_loopg [1] (N - p) (fun kx s1 wr => ∃ (q : Nat) (e : Array α), s1 = .int .i64 q ∧ N - q ≤ kx ∧ q < N ∧ Hid (e.size = N) ∧ Hid (sinkA lt e q = sinkA lt d p) ∧ Aside (SWK enc k w0 blk off e wr))
  case atStart => exact ⟨p, d, rfl, Nat.le_refl _, hp, HD, rfl, S0⟩
  case round =>
    clear S0
    obtain ⟨q, e, rfl, hkx, hq, HE, HR, S1⟩ := hrel
    have hlst := tleast_any L enc lt HL.out tb blk off cap q N d0 e w0 wr R hs HE.out S1.out hT hne hq hsz
    have hlc := leastA_cases (lt := lt) e q
    have hll : leastA lt e q < N := by have := leastA_lt (lt := lt) e q (by rw [HE.out]; exact hq); rwa [HE.out] at this
    obtain ⟨l, hl⟩ : ∃ l, l = leastA lt e q := ⟨_, rfl⟩
    rw [← hl] at hlst hlc hll
    have HLl : Hid (l = leastA lt e q) := hl
    clear hl S1
    by_cases hql : l = q
    · subst hql
      go_wp2_with (go_at_fn 55; refine hlst.mono ?_; rintro e1 w3 ⟨rfl, S3⟩)
      refine bodyPost_ret (results_none rfl _ _ _) rfl ?_
      refine ⟨rfl, ?_⟩
      rw [← HR.out, sinkA_stop HLl.out.symm]
      exact S3
    · have hz : ¬ (l : Int) = (q : Int) := by omega
      have hcont : ∀ w3, SWK enc k w0 blk off e w3 → Calls P 49 #[.pointer (some ⟨tb, 0, none⟩), .int .i64 q, .int .i64 l] w3 fun e1 w' => e1 = .returned (.tuple #[]) ∧ Aside (SWK enc k w0 blk off (swp e q l) w') :=
        fun w3 S3 => tswap_any L enc tb blk off cap q l d0 e w0 w3 R (by rw [HE.out, hs]) S3 (by rw [HE.out]; exact hT) hne (by rw [HE.out]; exact hq) (by rw [HE.out]; exact hll) (by rw [HE.out]; exact hsz)
      go_wp2_with (first | (go_at_fn 55; refine hlst.mono ?_; rintro e1 w3 ⟨rfl, S3⟩; have hsw := hcont w3 S3; clear S3) | (go_at_fn 49; refine hsw.mono ?_; rintro e1 w4 ⟨rfl, S4⟩))
      go_roundg (N - l)
      case measure => omega
      case rel =>
        refine ⟨l, swp e q l, rfl, Nat.le_refl _, hll, ?_, ?_, S4⟩
        · show _ = _; rw [size_swp, HE.out]
        · show _ = _
          refine Eq.trans ?_ HR.out
          rw [sinkA_go (d := e) (p := q) (by rw [HE.out]; exact hq) (by rw [← HLl.out]; exact hql), ← HLl.out]
end Go.Proofs.Ytbalbachmeiehaa
