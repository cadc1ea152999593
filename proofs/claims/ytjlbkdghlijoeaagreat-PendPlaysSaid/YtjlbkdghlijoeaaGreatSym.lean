/-
  The library's merge in place, at elements of k cells, from a world of the sort's to a world of the sort's: a range and one element.
  The library's merge in place, at elements of k cells, from a world of the sort's to a world of the sort's: both of two or more.
  The library's merge in place over lists: of two ranges that are in order it makes their stable merge.
-/
import Derived.Test.YtjlbkdghlijoeaaGreatSym4
namespace Go.Proofs.YtjlbkdghlijoeaaGreat
open Go.Shelf Go.RowKit Go.Lib Go.Sort
variable {P : Program} {α : Type} [Inhabited α] {k : Nat}

set_option maxHeartbeats 8000000 in
set_option maxRecDepth 1000000 in
theorem sym_two (L : Lay P k) (enc : α → List Value) (cf : α → α → Int) (g : Nat) (cb : Array Value) (blk off cap N a m b : Nat) (d0 d : Array α) (w0 w : World)
    (eg : ∀ args w, (callFunc g args).run P w = .ok (.enter g args) w) (hcmp : CmpLays P g cb enc k cf blk off d0.size w0)
    (R : RowK enc k w0 blk off d0) (hs : d0.size = N) (hd : d.size = N) (S : SWK enc k w0 blk off d w) (ham : a + 1 < m) (hm : b = m + 1) (hb : b ≤ N) (hsz : N < 1152921504606846976)
    (ord : ∀ s t, a ≤ s → s < t → t < m → ltOf cf d[m]! d[s]! = true → ltOf cf d[m]! d[t]! = true)
    (Q : Nat → Prop) (hQ : ∀ i, a ≤ i → i ≤ m → (∀ t, a ≤ t → t < i → ltOf cf d[m]! d[t]! = false) → (∀ t, i ≤ t → t < m → ltOf cf d[m]! d[t]! = true) → Q i) :
    Calls P 152 #[.slice (some ⟨blk, off, none⟩) N cap, .int .i64 a, .int .i64 m, .int .i64 b, .func (.func g) #[] cb] w fun e w' => e = .returned (.tuple #[]) ∧
      ∃ i, a ≤ i ∧ i ≤ m ∧ Q i ∧ SWK enc k w0 blk off (swDown d m (m - i)) w' := by
  have mixed := L.mixed; have t0 := L.t0; have a0 := L.a0; have z0 := L.z0; have v0 := L.v0; have t3 := L.t3; have a3 := L.a3; have z3 := L.z3; have v3 := L.v3; have t4 := L.t4; have a4 := L.a4; have z4 := L.z4; have v4 := L.v4; have t22 := L.t22; have a22 := L.a22; have z22 := L.z22; have v22 := L.v22; have t25 := L.t25; have a25 := L.a25; have z25 := L.z25; have v25 := L.v25; have t56 := L.t56; have a56 := L.a56; have z56 := L.z56; have v56 := L.v56; have aE := L.aE; have zE := L.zE
  have FG := L.fSym
  have HC : Aside _ := hcmp
  have S0 : Aside (SWK enc k w0 blk off d w) := S
  have OR : Aside _ := ord
  have h1 : ((m : Int) - (a : Int) == 1) = false := by simp; omega
  have h2 : (b : Int) - (m : Int) = 1 := by omega
  have HQ : Aside _ := hQ
  have HM : Hid (b = m + 1) := hm
  have hmN : m < N := by omega
  clear hcmp S ord hm hQ
  go_enter FG, Tryz.ntmps152
  go_wp2
  go_loopg [14, 15] (m - a) (fun kx s14 s15 wr => ∃ (i j : Nat), s14 = .int .i64 i ∧ s15 = .int .i64 j ∧ a ≤ i ∧ i ≤ j ∧ j ≤ m ∧ j - i ≤ kx ∧ Aside ((∀ t, a ≤ t → t < i → ltOf cf d[m]! d[t]! = false) ∧ (∀ t, j ≤ t → t < m → ltOf cf d[m]! d[t]! = true)) ∧ Aside (SWK enc k w0 blk off d wr))
  case atStart => exact ⟨a, m, rfl, rfl, Nat.le_refl _, by omega, Nat.le_refl _, Nat.le_refl _, ⟨fun t h h' => by omega, fun t h h' => by omega⟩, S0⟩
  case round =>
    clear S0
    obtain ⟨i, j, rfl, rfl, hi, hij, hj, hkx, H, S1⟩ := hrel
    by_cases hlt : i < j
    · have hz : (i : Int) < (j : Int) := by omega
      have hu := half_u (i := i) (j := j) (by omega)
      obtain ⟨h, hhe, hih, hhj⟩ : ∃ h : Nat, ((i : Int) + (j : Int)) / 2 = (h : Int) ∧ i ≤ h ∧ h < j := ⟨(i + j) / 2, by omega, by omega, by omega⟩
      cases hL : ltOf cf d[m]! d[h]! with
      | true =>
        have ea5 : ((m : Int)).toNat = m := by omega
        have pa5 : (0 : Int) ≤ (m : Int) := by omega
        have ba5 : (m : Int) < (N : Int) := by omega
        have ra5 : IntKind.i64.wrap ((m : Int)) = (m : Int) := by rw [IntKind.wrap_i64]; omega
        have ec5 : ((h : Int)).toNat = h := by omega
        have pc5 : (0 : Int) ≤ (h : Int) := by omega
        have bc5 : (h : Int) < (N : Int) := by omega
        have rc5 : IntKind.i64.wrap ((h : Int)) = (h : Int) := by rw [IntKind.wrap_i64]; omega
        obtain ⟨x5, hx5⟩ : ∃ x, x = d[m]! := ⟨_, rfl⟩
        obtain ⟨y5, hy5⟩ : ∃ x, x = d[h]! := ⟨_, rfl⟩
        have l5a := S1.out.ld R (by omega) P (m) (by omega)
        have l5b := S1.out.ld R (by omega) P (h) (by omega)
        rw [← hx5] at l5a
        rw [← hy5] at l5b
        have hc5 := S1.out.cmp HC.out (by omega) x5 y5
        have hv5 : cf x5 y5 < 0 := by rw [hx5, hy5]; exact of_decide_eq_true hL
        have hd5 : decide (cf x5 y5 < 0) = true := decide_eq_true hv5
        clear hx5 hy5
        go_wp2_with fail
        go_quiet_grown (first | (go_at_fn g; refine Calls.grown_of (hc5 _ _)))
        have S2 : Aside (SWK enc k w0 blk off d (grow (wr.drewN nq) osq)) := S1.out.grown nq osq
        clear l5a l5b hc5 S1
        generalize grow (wr.drewN nq) osq = w2 at S2 ⊢
        clear nq osq
        go_wp2
        go_roundg (h - i)
        case measure => omega
        case rel =>
          refine ⟨i, h, rfl, rfl, hi, by omega, by omega, Nat.le_refl _, ⟨H.out.1, fun t h1 h2 => ?_⟩, S2⟩
          by_cases hte : t = h
          · rw [hte]; exact hL
          · exact OR.out h t (by omega) (by omega) h2 hL
      | false =>
        have ea5 : ((m : Int)).toNat = m := by omega
        have pa5 : (0 : Int) ≤ (m : Int) := by omega
        have ba5 : (m : Int) < (N : Int) := by omega
        have ra5 : IntKind.i64.wrap ((m : Int)) = (m : Int) := by rw [IntKind.wrap_i64]; omega
        have ec5 : ((h : Int)).toNat = h := by omega
        have pc5 : (0 : Int) ≤ (h : Int) := by omega
        have bc5 : (h : Int) < (N : Int) := by omega
        have rc5 : IntKind.i64.wrap ((h : Int)) = (h : Int) := by rw [IntKind.wrap_i64]; omega
        obtain ⟨x5, hx5⟩ : ∃ x, x = d[m]! := ⟨_, rfl⟩
        obtain ⟨y5, hy5⟩ : ∃ x, x = d[h]! := ⟨_, rfl⟩
        have l5a := S1.out.ld R (by omega) P (m) (by omega)
        have l5b := S1.out.ld R (by omega) P (h) (by omega)
        rw [← hx5] at l5a
        rw [← hy5] at l5b
        have hc5 := S1.out.cmp HC.out (by omega) x5 y5
        have hv5 : ¬ cf x5 y5 < 0 := by rw [hx5, hy5]; exact of_decide_eq_false hL
        have hd5 : decide (cf x5 y5 < 0) = false := decide_eq_false hv5
        clear hx5 hy5
        go_wp2_with fail
        go_quiet_grown (first | (go_at_fn g; refine Calls.grown_of (hc5 _ _)))
        have S2 : Aside (SWK enc k w0 blk off d (grow (wr.drewN nq) osq)) := S1.out.grown nq osq
        clear l5a l5b hc5 S1
        generalize grow (wr.drewN nq) osq = w2 at S2 ⊢
        clear nq osq
        go_wp2
        go_roundg (j - (h + 1))
        case measure => omega
        case rel =>
          refine ⟨h + 1, j, by simp, rfl, by omega, by omega, hj, Nat.le_refl _, ⟨fun t h1 h2 => ?_, H.out.2⟩, S2⟩
          cases ht : ltOf cf d[m]! d[t]! with
          | false => rfl
          | true =>
            by_cases hte : t = h
            · rw [hte, hL] at ht; cases ht
            · have := OR.out t h h1 (by omega) (by omega) ht
              rw [hL] at this; cases this
    · have hz : ¬ (i : Int) < (j : Int) := by omega
      obtain rfl : i = j := by omega
      go_wp2
      go_loopg [17] (m - i) (fun kx s17 wr => ∃ (kk q : Nat), s17 = .int .i64 kk ∧ Hid (kk + q = m) ∧ i + kx = kk ∧ kk ≤ m ∧ Aside (SWK enc k w0 blk off (swDown d m q) wr))
      case atStart => exact ⟨m, 0, rfl, rfl, by omega, Nat.le_refl _, S1⟩
      case round =>
        clear S1
        obtain ⟨kk, q, rfl, HK, hkk, hak, S1⟩ := hrel
        by_cases hlt : i < kk
        · have hz2 : (i : Int) < (kk : Int) := by omega
          obtain ⟨dk, hdk⟩ : ∃ dk, dk = swDown d m q := ⟨_, rfl⟩
          have hds : dk.size = N := by rw [hdk, size_swDown, hd]
          have hdn : swDown d m (q + 1) = swp dk kk (kk - 1) := by rw [swDown, hdk, show m - q = kk by have := HK.out; omega]
          rw [← hdk] at S1
          have ea6 : ((kk : Int)).toNat = kk := by omega
          have pa6 : (0 : Int) ≤ (kk : Int) := by omega
          have ba6 : (kk : Int) < (N : Int) := by omega
          have ra6 : IntKind.i64.wrap ((kk : Int)) = (kk : Int) := by rw [IntKind.wrap_i64]; omega
          have ec6 : ((kk : Int) - 1).toNat = kk - 1 := by omega
          have pc6 : (0 : Int) ≤ (kk : Int) - 1 := by omega
          have bc6 : (kk : Int) - 1 < (N : Int) := by omega
          have rc6 : IntKind.i64.wrap ((kk : Int) - 1) = (kk : Int) - 1 := by rw [IntKind.wrap_i64]; omega
          have S2 : Aside (SWK enc k w0 blk off (swp dk (kk) (kk - 1)) ((wr.drew.setCells blk (off + (kk) * k) (enc dk[kk - 1]!)).setCells blk (off + (kk - 1) * k) (enc dk[kk]!))) := S1.out.swapped R (kk) (kk - 1) (by omega) (by omega)
          have l6a := S1.out.ld1 R (by omega) P (kk) (by omega)
          have l6b := S1.out.ld1 R (by omega) P (kk - 1) (by omega)
          have s6a := S1.out.st1 R (by omega) P (kk) (by omega) dk[kk - 1]!
          have s6b := S1.out.st2 R (by omega) P (kk) (kk - 1) (by omega) (by omega) dk[kk - 1]! dk[kk]!
          have n6a : (enc dk[kk]!).length = k := R.hk _
          have n6b : (enc dk[kk - 1]!).length = k := R.hk _
          rw [← hdn] at S2
          generalize enc dk[kk]! = cI6 at S2 l6a s6b n6a
          generalize enc dk[kk - 1]! = cJ6 at S2 l6b s6a s6b n6b
          clear S1
          go_wp2_with fail
          go_big_region_o
          clear l6a l6b s6a s6b
          generalize (wr.drew.setCells blk (off + (kk) * k) cJ6).setCells blk (off + (kk - 1) * k) cI6 = w2 at S2 ⊢
          clear hdn hdk hds dk
          go_wp2
          go_roundg (kk - 1 - i)
          case measure => omega
          case rel => exact ⟨kk - 1, q + 1, congrArg _ (by omega), by show kk - 1 + (q + 1) = m; have := HK.out; omega, by omega, by omega, S2⟩
        · have hz2 : ¬ (i : Int) < (kk : Int) := by omega
          go_wp2
          refine bodyPost_ret (results_none rfl _ _ _) rfl ?_
          refine ⟨rfl, i, hi, hj, HQ.out i hi hj H.out.1 H.out.2, ?_⟩
          have : m - i = q := by have := HK.out; omega
          rw [this]
          exact S1.out

end Go.Proofs.YtjlbkdghlijoeaaGreat
namespace Go.Proofs.YtjlbkdghlijoeaaGreat
open Go.Shelf Go.RowKit Go.Lib Go.Sort
variable {P : Program} {α : Type} [Inhabited α] {k : Nat}

set_option maxHeartbeats 16000000 in
set_option maxRecDepth 1000000 in
theorem sym_gen_hi (L : Lay P k) (enc : α → List Value) (cf : α → α → Int) (g : Nat) (cb : Array Value) (blk off cap N a m b mid n p st0 : Nat) (d0 d dT : Array α) (w0 w : World)
    (eg : ∀ args w, (callFunc g args).run P w = .ok (.enter g args) w) (hcmp : CmpLays P g cb enc k cf blk off d0.size w0)
    (R : RowK enc k w0 blk off d0) (hs : d0.size = N) (hd : d.size = N) (S : SWK enc k w0 blk off d w) (ham : a + 1 < m) (hmb : m + 1 < b) (hb : b ≤ N) (hsz : N < 1152921504606846976)
    (hmid : mid = (a + b) / 2) (hn : n = mid + m) (hp : p + 1 = n) (hmm : mid < m) (hst : st0 + b = n)
    (ord : ∀ s t, st0 ≤ s → s < t → t < mid → ltOf cf d[p - s]! d[s]! = true → ltOf cf d[p - t]! d[t]! = true)
    (cont : ∀ s en, st0 ≤ s → s ≤ mid → s + en = n → (∀ c, st0 ≤ c → c < s → ltOf cf d[p - c]! d[c]! = false) → (∀ c, s ≤ c → c < mid → ltOf cf d[p - c]! d[c]! = true) → SymCont P enc k w0 blk off cap N g cb a m b mid s en d dT) :
    Calls P 152 #[.slice (some ⟨blk, off, none⟩) N cap, .int .i64 a, .int .i64 m, .int .i64 b, .func (.func g) #[] cb] w fun e w' => e = .returned (.tuple #[]) ∧ SWK enc k w0 blk off dT w' := by
  have mixed := L.mixed; have t0 := L.t0; have a0 := L.a0; have z0 := L.z0; have v0 := L.v0; have t3 := L.t3; have a3 := L.a3; have z3 := L.z3; have v3 := L.v3; have t4 := L.t4; have a4 := L.a4; have z4 := L.z4; have v4 := L.v4; have t22 := L.t22; have a22 := L.a22; have z22 := L.z22; have v22 := L.v22; have t25 := L.t25; have a25 := L.a25; have z25 := L.z25; have v25 := L.v25; have t56 := L.t56; have a56 := L.a56; have z56 := L.z56; have v56 := L.v56; have aE := L.aE; have zE := L.zE
  have FG := L.fSym
  have e47 : ∀ args w, (callFunc 154 args).run P w = .ok (.enter 154 args) w := enters_of L.fRot (by kernel_rfl) rfl
  have e46 : ∀ args w, (callFunc 152 args).run P w = .ok (.enter 152 args) w := enters_of L.fSym (by kernel_rfl) rfl
  have HC : Aside _ := hcmp
  have S0 : Aside (SWK enc k w0 blk off d w) := S
  have OR : Aside _ := ord
  have CO : Aside _ := cont
  have h1 : ((m : Int) - (a : Int) == 1) = false := by simp; omega
  have h2 : ((b : Int) - (m : Int) == 1) = false := by simp; omega
  have hu0 := half_u (i := a) (j := b) (by omega)
  have hm1 : ((a : Int) + (b : Int)) / 2 = (mid : Int) := by omega
  have hn1 : (mid : Int) + (m : Int) = (n : Int) := by omega
  have hp1 : (n : Int) - 1 = (p : Int) := by omega
  have hmN : mid < N := by omega
  have hnN : n < 2 * N := by omega
  have hpN : p < 2 * N := by omega
  have hamid : a < mid := by omega
  have hmidb : mid < b := by omega
  have HP : Hid (p + 1 = n) := hp
  have HN : Hid (n = mid + m) := hn
  clear hcmp S ord cont hmid hn hp
  have hzm : (mid : Int) < (m : Int) := by omega
  have hst1 : (n : Int) - (b : Int) = (st0 : Int) := by omega
  go_enter FG, Tryz.ntmps152
  go_wp2
  go_loopg [20, 21] (mid - st0) (fun kx s20 s21 wr => ∃ (st r : Nat), s20 = .int .i64 st ∧ s21 = .int .i64 r ∧ st0 ≤ st ∧ st ≤ r ∧ r ≤ mid ∧ r - st ≤ kx ∧ Aside ((∀ c, st0 ≤ c → c < st → ltOf cf d[p - c]! d[c]! = false) ∧ (∀ c, r ≤ c → c < mid → ltOf cf d[p - c]! d[c]! = true)) ∧ Aside (SWK enc k w0 blk off d wr))
  case atStart => exact ⟨st0, mid, rfl, rfl, Nat.le_refl _, by have := HN.out; omega, Nat.le_refl _, Nat.le_refl _, ⟨fun t h h' => by omega, fun t h h' => by omega⟩, S0⟩
  case round =>
    clear S0
    obtain ⟨st, r, rfl, rfl, hi, hij, hj, hkx, H, S1⟩ := hrel
    by_cases hlt : st < r
    · have hz : (st : Int) < (r : Int) := by omega
      have hu := half_u (i := st) (j := r) (by omega)
      obtain ⟨c, hhe, hic, hcj⟩ : ∃ c : Nat, ((st : Int) + (r : Int)) / 2 = (c : Int) ∧ st ≤ c ∧ c < r := ⟨(st + r) / 2, by omega, by omega, by omega⟩
      have hcp : c ≤ p := by have := HP.out; have := HN.out; omega
      have hpc : p - c < b := by have := HP.out; have := HN.out; omega
      cases hL : ltOf cf d[p - c]! d[c]! with
      | true =>
        have ea5 : ((p : Int) - (c : Int)).toNat = p - c := by omega
        have pa5 : (0 : Int) ≤ (p : Int) - (c : Int) := by omega
        have ba5 : (p : Int) - (c : Int) < (N : Int) := by omega
        have ra5 : IntKind.i64.wrap ((p : Int) - (c : Int)) = (p : Int) - (c : Int) := by rw [IntKind.wrap_i64]; omega
        have ec5 : ((c : Int)).toNat = c := by omega
        have pc5 : (0 : Int) ≤ (c : Int) := by omega
        have bc5 : (c : Int) < (N : Int) := by omega
        have rc5 : IntKind.i64.wrap ((c : Int)) = (c : Int) := by rw [IntKind.wrap_i64]; omega
        obtain ⟨x5, hx5⟩ : ∃ x, x = d[p - c]! := ⟨_, rfl⟩
        obtain ⟨y5, hy5⟩ : ∃ x, x = d[c]! := ⟨_, rfl⟩
        have l5a := S1.out.ld R (by omega) P (p - c) (by omega)
        have l5b := S1.out.ld R (by omega) P (c) (by omega)
        rw [← hx5] at l5a
        rw [← hy5] at l5b
        have hc5 := S1.out.cmp HC.out (by omega) x5 y5
        have hv5 : cf x5 y5 < 0 := by rw [hx5, hy5]; exact of_decide_eq_true hL
        have hd5 : decide (cf x5 y5 < 0) = true := decide_eq_true hv5
        clear hx5 hy5
        go_wp2_with fail
        go_quiet_grown (first | (go_at_fn g; refine Calls.grown_of (hc5 _ _)))
        have S2 : Aside (SWK enc k w0 blk off d (grow (wr.drewN nq) osq)) := S1.out.grown nq osq
        clear l5a l5b hc5 S1
        generalize grow (wr.drewN nq) osq = w2 at S2 ⊢
        clear nq osq
        go_wp2
        go_roundg (c - st)
        case measure => omega
        case rel =>
          refine ⟨st, c, rfl, rfl, hi, by omega, by omega, Nat.le_refl _, ⟨H.out.1, fun t h1 h2 => ?_⟩, S2⟩
          by_cases hte : t = c
          · rw [hte]; exact hL
          · exact OR.out c t (by omega) (by omega) h2 hL
      | false =>
        have ea5 : ((p : Int) - (c : Int)).toNat = p - c := by omega
        have pa5 : (0 : Int) ≤ (p : Int) - (c : Int) := by omega
        have ba5 : (p : Int) - (c : Int) < (N : Int) := by omega
        have ra5 : IntKind.i64.wrap ((p : Int) - (c : Int)) = (p : Int) - (c : Int) := by rw [IntKind.wrap_i64]; omega
        have ec5 : ((c : Int)).toNat = c := by omega
        have pc5 : (0 : Int) ≤ (c : Int) := by omega
        have bc5 : (c : Int) < (N : Int) := by omega
        have rc5 : IntKind.i64.wrap ((c : Int)) = (c : Int) := by rw [IntKind.wrap_i64]; omega
        obtain ⟨x5, hx5⟩ : ∃ x, x = d[p - c]! := ⟨_, rfl⟩
        obtain ⟨y5, hy5⟩ : ∃ x, x = d[c]! := ⟨_, rfl⟩
        have l5a := S1.out.ld R (by omega) P (p - c) (by omega)
        have l5b := S1.out.ld R (by omega) P (c) (by omega)
        rw [← hx5] at l5a
        rw [← hy5] at l5b
        have hc5 := S1.out.cmp HC.out (by omega) x5 y5
        have hv5 : ¬ cf x5 y5 < 0 := by rw [hx5, hy5]; exact of_decide_eq_false hL
        have hd5 : decide (cf x5 y5 < 0) = false := decide_eq_false hv5
        clear hx5 hy5
        go_wp2_with fail
        go_quiet_grown (first | (go_at_fn g; refine Calls.grown_of (hc5 _ _)))
        have S2 : Aside (SWK enc k w0 blk off d (grow (wr.drewN nq) osq)) := S1.out.grown nq osq
        clear l5a l5b hc5 S1
        generalize grow (wr.drewN nq) osq = w2 at S2 ⊢
        clear nq osq
        go_wp2
        go_roundg (r - (c + 1))
        case measure => omega
        case rel =>
          refine ⟨c + 1, r, by simp, rfl, by omega, by omega, hj, Nat.le_refl _, ⟨fun t h1 h2 => ?_, H.out.2⟩, S2⟩
          cases ht : ltOf cf d[p - t]! d[t]! with
          | false => rfl
          | true =>
            by_cases hte : t = c
            · rw [hte, hL] at ht; cases ht
            · have := OR.out t c h1 (by omega) (by omega) ht
              rw [hL] at this; cases this
    · have hz : ¬ (st : Int) < (r : Int) := by omega
      obtain rfl : st = r := by omega
      obtain ⟨en, hen⟩ : ∃ en, en = n - st := ⟨_, rfl⟩
      have hse : st + en = n := by have := HN.out; omega
      have hen1 : (n : Int) - (st : Int) = (en : Int) := by omega
      obtain ⟨d2, d3, c1, c1', c2, c2', c3, c3'⟩ := CO.out st en hi hj hse H.out.1 H.out.2
      have HE : Hid (st + en = n) := hse
      clear hen hse H OR CO HC hkx
      have w12 : st < mid ↔ m < en := by have := HN.out; have := HE.out; omega
      have w13 : mid < en ↔ st < m := by have := HN.out; have := HE.out; omega
      rw [w12] at c2 c2'
      rw [w13] at c3 c3'
      by_cases hA : st < m <;> by_cases hB : m < en <;> by_cases hC : a < st <;> by_cases hD : en < b
      all_goals
        simp only [hA, hB, hC, hD, and_self, and_true, and_false, not_true_eq_false, not_false_eq_true, forall_const, false_implies] at c1 c1' c2 c2' c3 c3'
        try subst c1'
        try subst c2'
        try subst c3'
        go_wp2_with (first | (go_at_fn 154; refine (c1 _ (by assumption)).mono ?_; rintro e w3 ⟨rfl, S3⟩) | (go_at_fn_of 152 (Value.int .i64 a); refine (c2 _ (by assumption)).mono ?_; rintro e w4 ⟨rfl, S4⟩) | (go_at_fn_of 152 (Value.int .i64 b); refine (c3 _ (by assumption)).mono ?_; rintro e w5 ⟨rfl, S5⟩))
        go_end0
        exact ⟨rfl, Aside.out (by assumption)⟩

end Go.Proofs.YtjlbkdghlijoeaaGreat
namespace Go.Proofs.YtjlbkdghlijoeaaGreat
open Go.Shelf Go.RowKit Go.Lib Go.Sort
variable {α : Type} [Inhabited α] {k : Nat}

theorem swp_comm (d : Array α) (i j : Nat) (hi : i < d.size) (hj : j < d.size) : swp d i j = swp d j i := by
  refine Array.ext (by simp [swp_size]) fun t h1 h2 => ?_
  have e1 := swp_get d hi hj t
  have e2 := swp_get d hj hi t
  rw [getElem!_pos _ t h1] at e1
  rw [getElem!_pos _ t h2] at e2
  rw [e1, e2]
  by_cases a : t = i <;> by_cases b : t = j <;> simp_all

theorem swUp_lists (Pp : List α) (x : α) : ∀ (q : Nat) (B R : List α), B.length = q → swUp (Pp ++ x :: (B ++ R)).toArray Pp.length q = (Pp ++ (B ++ x :: R)).toArray
  | 0, B, R, h => by
    obtain rfl := List.eq_nil_of_length_eq_zero h
    rfl
  | q + 1, B, R, h => by
    obtain ⟨B', y, rfl⟩ : ∃ B' y, B = B' ++ [y] := ⟨B.dropLast, B.getLast (by intro h'; simp [h'] at h), (List.dropLast_concat_getLast _).symm⟩
    have hB : B'.length = q := by simpa using h
    have ih := swUp_lists Pp x q B' (y :: R) hB
    have e : Pp ++ x :: (B' ++ [y] ++ R) = Pp ++ x :: (B' ++ (y :: R)) := by simp
    rw [swUp, e, ih]
    have := swp_lists (Pp ++ B') [] R x y (Pp.length + q) (Pp.length + q + 1) (by simp; omega) (by simp; omega)
    simp only [List.append_assoc, List.nil_append, List.cons_append] at this ⊢
    exact this
theorem swDown_lists (y : α) (R : List α) : ∀ (q : Nat) (Pp A : List α) (m : Nat), A.length = q → m = Pp.length + q → swDown (Pp ++ (A ++ y :: R)).toArray m q = (Pp ++ y :: (A ++ R)).toArray
  | 0, Pp, A, m, h, _ => by
    obtain rfl := List.eq_nil_of_length_eq_zero h
    rfl
  | q + 1, Pp, A, m, h, hm => by
    cases A with
    | nil => simp at h
    | cons z A =>
      have hA : A.length = q := by simpa using h
      have ih := swDown_lists y R q (Pp ++ [z]) A m hA (by simp; omega)
      have e : Pp ++ (z :: A ++ y :: R) = Pp ++ [z] ++ (A ++ y :: R) := by simp
      rw [swDown, e, ih, swp_comm _ _ _ (by simp; omega) (by simp; omega)]
      have := swp_lists Pp [] (A ++ R) z y (m - q - 1) (m - q) (by omega) (by simp; omega)
      simp only [List.append_assoc, List.nil_append, List.cons_append] at this ⊢
      exact this

theorem idxA (Pp A R : List α) (t i : Nat) (ht : t < A.length) (hi : i = Pp.length + t) : (Pp ++ (A ++ R)).toArray[i]! = A[t] := by
  have := get_at (Pp ++ A.take t) (A.drop (t + 1) ++ R) A[t] i (by simp; omega)
  have e : Pp ++ (A ++ R) = Pp ++ A.take t ++ A[t] :: (A.drop (t + 1) ++ R) := by
    conv => lhs; rw [← List.take_append_drop t A, List.drop_eq_getElem_cons ht]
    simp only [List.append_assoc, List.cons_append]
  rw [e]
  exact this
theorem idxB (Pp A B R : List α) (t i : Nat) (ht : t < B.length) (hi : i = Pp.length + A.length + t) : (Pp ++ (A ++ (B ++ R))).toArray[i]! = B[t] := by
  have := idxA (Pp ++ A) B R t i ht (by simp; omega)
  rwa [List.append_assoc] at this

omit [Inhabited α] in
theorem Ord.refl {lt : α → α → Bool} (O : Ord lt) (x : α) : lt x x = false := by
  cases h : lt x x with
  | false => rfl
  | true => have := O.asymm x x h; rw [h] at this; exact this
omit [Inhabited α] in
theorem InOrder.at {lt : α → α → Bool} (O : Ord lt) {A : List α} (h : InOrder lt A) {i j : Nat} (hij : i ≤ j) (hj : j < A.length) : lt A[j] (A[i]'(by omega)) = false := by
  by_cases he : i = j
  · subst he; exact O.refl _
  · exact (List.pairwise_iff_getElem.1 h) i j (by omega) hj (by omega)
omit [Inhabited α] in
theorem mem_take_idx {A : List α} {n : Nat} {x : α} (h : x ∈ A.take n) : ∃ i, ∃ (hi : i < A.length), i < n ∧ A[i] = x := by
  obtain ⟨i, hi, rfl⟩ := List.mem_iff_getElem.1 h
  rw [List.length_take] at hi
  exact ⟨i, by omega, by omega, by simp⟩
omit [Inhabited α] in
theorem mem_drop_idx {A : List α} {n : Nat} {x : α} (h : x ∈ A.drop n) : ∃ i, ∃ (hi : i < A.length), n ≤ i ∧ A[i] = x := by
  obtain ⟨i, hi, rfl⟩ := List.mem_iff_getElem.1 h
  rw [List.length_drop] at hi
  exact ⟨n + i, by omega, by omega, by simp⟩

variable {P : Program}

theorem symMerge_lists (L : Lay P k) (enc : α → List Value) (cf : α → α → Int) (O : Ord (ltOf cf)) (g : Nat) (cb : Array Value) (blk off cap N : Nat) (d0 : Array α) (w0 : World)
    (eg : ∀ args w, (callFunc g args).run P w = .ok (.enter g args) w) (hcmp : CmpLays P g cb enc k cf blk off d0.size w0) (R : RowK enc k w0 blk off d0) (hs : d0.size = N) (hsz : N < 1152921504606846976) :
    ∀ (len : Nat) (Pp A B S : List α) (w : World), A.length + B.length ≤ len → 0 < A.length → 0 < B.length → InOrder (ltOf cf) A → InOrder (ltOf cf) B → (Pp ++ (A ++ (B ++ S))).length = N → SWK enc k w0 blk off (Pp ++ (A ++ (B ++ S))).toArray w →
    ∀ (az mz bz : Int), az = Pp.length → mz = (Pp.length + A.length : Nat) → bz = (Pp.length + A.length + B.length : Nat) →
    Calls P 152 #[.slice (some ⟨blk, off, none⟩) N cap, .int .i64 az, .int .i64 mz, .int .i64 bz, .func (.func g) #[] cb] w fun e w' => e = .returned (.tuple #[]) ∧ SWK enc k w0 blk off (Pp ++ (mg (ltOf cf) A B ++ S)).toArray w' := by
  intro len
  induction len with
  | zero => intro Pp A B S w h hA; omega
  | succ len ih =>
    intro Pp A B S w hlen hA hB oA oB hN W az mz bz ha hm hb
    subst ha hm hb
    have hl : Pp.length + (A.length + (B.length + S.length)) = N := by simpa using hN
    have hd : (Pp ++ (A ++ (B ++ S))).toArray.size = N := by rw [List.size_toArray, hN]
    have iA : ∀ t (ht : t < A.length), (Pp ++ (A ++ (B ++ S))).toArray[Pp.length + t]! = A[t] := fun t ht => idxA Pp A (B ++ S) t _ ht rfl
    have iB : ∀ t (ht : t < B.length), (Pp ++ (A ++ (B ++ S))).toArray[Pp.length + A.length + t]! = B[t] := fun t ht => idxB Pp A B S t _ ht rfl
    by_cases hA1 : A.length = 1
    · -- one element ahead
      obtain ⟨x, rfl⟩ := List.length_eq_one_iff.1 hA1
      have gx : (Pp ++ ([x] ++ (B ++ S))).toArray[Pp.length]! = x := iA 0 (by simp)
      have := sym_one L enc cf g cb blk off cap N Pp.length (Pp.length + 1) (Pp.length + 1 + B.length) d0 _ w0 w eg hcmp R hs hd W rfl (by omega) (by simp at hl; omega) hsz
        (fun s t h1 h2 h3 h4 => by
          obtain ⟨s', rfl⟩ : ∃ s', s = Pp.length + [x].length + s' := ⟨s - (Pp.length + 1), by simp; omega⟩
          obtain ⟨t', rfl⟩ : ∃ t', t = Pp.length + [x].length + t' := ⟨t - (Pp.length + 1), by simp; omega⟩
          simp only [List.length_cons, List.length_nil, Nat.zero_add] at h2 h3
          rw [gx, iB s' (by omega)] at h4
          rw [gx, iB t' (by omega)]
          exact O.trans _ _ _ h4 (oB.at O (by omega) (by omega)))
      refine this.mono ?_
      rintro e w' ⟨rfl, i, h1, h2, hlow, hhigh, W'⟩
      refine ⟨rfl, ?_⟩
      obtain ⟨n, rfl⟩ : ∃ n, i = Pp.length + [x].length + n := ⟨i - (Pp.length + 1), by simp; omega⟩
      simp only [List.length_cons, List.length_nil, Nat.zero_add] at h1 h2 hlow hhigh W'
      have hb1 : ∀ b ∈ B.take n, ltOf cf b x = true := fun b hb => by
        obtain ⟨j, hj, hjn, rfl⟩ := mem_take_idx hb
        have := hlow (Pp.length + 1 + j) (by omega) (by omega)
        rwa [gx, show Pp.length + 1 + j = Pp.length + [x].length + j from rfl, iB j hj] at this
      have hb2 : ∀ b ∈ B.drop n, ltOf cf b x = false := fun b hb => by
        obtain ⟨j, hj, hjn, rfl⟩ := mem_drop_idx hb
        have := hhigh (Pp.length + 1 + j) (by omega) (by omega)
        rwa [gx, show Pp.length + 1 + j = Pp.length + [x].length + j from rfl, iB j hj] at this
      have e1 := mg_split (lt := ltOf cf) [] [x] (B.take n) (B.drop n) (fun a ha => by simp at ha) (fun b hb a ha => by rw [List.mem_singleton.1 ha]; exact hb1 b hb)
      have e2 := mg_split (lt := ltOf cf) [x] [] [] (B.drop n) (fun a ha b hb => by rw [List.mem_singleton.1 ha]; exact hb2 b hb) (fun b hb => by simp at hb)
      simp only [List.nil_append, List.append_nil, mg_nil_left, mg_nil_right, List.take_append_drop] at e1 e2
      have hq : Pp.length + 1 + n - (Pp.length + 1) = n := by omega
      have e3 := swUp_lists Pp x n (B.take n) (B.drop n ++ S) (by rw [List.length_take]; omega)
      have e4 : Pp ++ x :: (B.take n ++ (B.drop n ++ S)) = Pp ++ ([x] ++ (B ++ S)) := by
        rw [← List.append_assoc (B.take n), List.take_append_drop]; rfl
      rw [hq, ← e4, e3] at W'
      rw [e1, e2]
      simpa using W'
    · by_cases hB1 : B.length = 1
      · -- one element behind
        obtain ⟨y, rfl⟩ := List.length_eq_one_iff.1 hB1
        have gy : (Pp ++ (A ++ ([y] ++ S))).toArray[Pp.length + A.length]! = y := iB 0 (by simp)
        have := sym_two L enc cf g cb blk off cap N Pp.length (Pp.length + A.length) (Pp.length + A.length + 1) d0 _ w0 w eg hcmp R hs hd W (by omega) rfl (by simp at hl; omega) hsz
          (fun s t h1 h2 h3 h4 => by
            obtain ⟨s', rfl⟩ : ∃ s', s = Pp.length + s' := ⟨s - Pp.length, by omega⟩
            obtain ⟨t', rfl⟩ : ∃ t', t = Pp.length + t' := ⟨t - Pp.length, by omega⟩
            rw [gy, iA s' (by omega)] at h4
            rw [gy, iA t' (by omega)]
            cases hc : ltOf cf y (A[t']'(by omega)) with
            | true => rfl
            | false =>
              have := O.trans _ _ _ (oA.at O (show s' ≤ t' by omega) (by omega)) hc
              rw [this] at h4
              cases h4)
          (fun i => (∀ t (ht : t < A.length), Pp.length + t < i → ltOf cf y A[t] = false) ∧ (∀ t (ht : t < A.length), i ≤ Pp.length + t → ltOf cf y A[t] = true))
          (fun i _ _ h3 h4 => ⟨fun t ht hti => by have := h3 (Pp.length + t) (by omega) hti; rwa [gy, iA t ht] at this, fun t ht hti => by have := h4 (Pp.length + t) hti (by omega); rwa [gy, iA t ht] at this⟩)
        refine this.mono ?_
        rintro e w' ⟨rfl, i, h1, h2, ⟨hlow, hhigh⟩, W'⟩
        refine ⟨rfl, ?_⟩
        obtain ⟨n, rfl⟩ : ∃ n, i = Pp.length + n := ⟨i - Pp.length, by omega⟩
        have ha1 : ∀ a ∈ A.take n, ltOf cf y a = false := fun a ha => by
          obtain ⟨j, hj, hjn, rfl⟩ := mem_take_idx ha
          exact hlow j hj (by omega)
        have ha2 : ∀ a ∈ A.drop n, ltOf cf y a = true := fun a ha => by
          obtain ⟨j, hj, hjn, rfl⟩ := mem_drop_idx ha
          exact hhigh j hj (by omega)
        have e1 := mg_split (lt := ltOf cf) (A.take n) (A.drop n) [] [y] (fun a ha b hb => by rw [List.mem_singleton.1 hb]; exact ha1 a ha) (fun b hb => by simp at hb)
        have e2 := mg_split (lt := ltOf cf) [] (A.drop n) [y] [] (fun a ha => by simp at ha) (fun b hb a ha => by rw [List.mem_singleton.1 hb]; exact ha2 a ha)
        simp only [List.nil_append, List.append_nil, mg_nil_left, mg_nil_right, List.take_append_drop] at e1 e2
        have hq : Pp.length + A.length - (Pp.length + n) = A.length - n := by omega
        have e3 := swDown_lists y S (A.length - n) (Pp ++ A.take n) (A.drop n) (Pp.length + A.length) (by rw [List.length_drop]) (by rw [List.length_append, List.length_take]; omega)
        have e4 : Pp ++ A.take n ++ (A.drop n ++ y :: S) = Pp ++ (A ++ ([y] ++ S)) := by
          rw [List.append_assoc, ← List.append_assoc (A.take n), List.take_append_drop]; rfl
        rw [hq, ← e4, e3] at W'
        rw [e1, e2]
        simpa using W'
      · -- both of two or more
        obtain ⟨a, ea⟩ : ∃ a, a = Pp.length := ⟨_, rfl⟩
        obtain ⟨m, em⟩ : ∃ m, m = Pp.length + A.length := ⟨_, rfl⟩
        obtain ⟨b, eb⟩ : ∃ b, b = Pp.length + A.length + B.length := ⟨_, rfl⟩
        obtain ⟨mid, emid⟩ : ∃ mid, mid = (a + b) / 2 := ⟨_, rfl⟩
        obtain ⟨p, ep⟩ : ∃ p, p + 1 = mid + m := ⟨mid + m - 1, by omega⟩
        obtain ⟨st0, r0, hst⟩ : ∃ st0 r0, (mid < m ∧ st0 + b = mid + m ∧ r0 = mid) ∨ (m ≤ mid ∧ st0 = a ∧ r0 = m) := by
          by_cases h : mid < m
          · exact ⟨mid + m - b, mid, .inl ⟨h, by omega, rfl⟩⟩
          · exact ⟨a, m, .inr ⟨by omega, rfl, rfl⟩⟩
        have jA : ∀ c (h1 : a ≤ c) (h2 : c < m), (Pp ++ (A ++ (B ++ S))).toArray[c]! = A[c - a]'(by omega) := fun c h1 h2 => by
          have := iA (c - a) (by omega)
          rwa [show Pp.length + (c - a) = c by omega] at this
        have jB : ∀ c (h1 : m ≤ c) (h2 : c < b), (Pp ++ (A ++ (B ++ S))).toArray[c]! = B[c - m]'(by omega) := fun c h1 h2 => by
          have := iB (c - m) (by omega)
          rwa [show Pp.length + A.length + (c - m) = c by omega] at this
        rw [← eb, ← em, ← ea]
        suffices hall : (∀ s t, st0 ≤ s → s < t → t < r0 → ltOf cf (Pp ++ (A ++ (B ++ S))).toArray[p - s]! (Pp ++ (A ++ (B ++ S))).toArray[s]! = true → ltOf cf (Pp ++ (A ++ (B ++ S))).toArray[p - t]! (Pp ++ (A ++ (B ++ S))).toArray[t]! = true) ∧
            (∀ s en, st0 ≤ s → s ≤ r0 → s + en = mid + m → (∀ c, st0 ≤ c → c < s → ltOf cf (Pp ++ (A ++ (B ++ S))).toArray[p - c]! (Pp ++ (A ++ (B ++ S))).toArray[c]! = false) → (∀ c, s ≤ c → c < r0 → ltOf cf (Pp ++ (A ++ (B ++ S))).toArray[p - c]! (Pp ++ (A ++ (B ++ S))).toArray[c]! = true) →
              SymCont P enc k w0 blk off cap N g cb a m b mid s en (Pp ++ (A ++ (B ++ S))).toArray (Pp ++ (mg (ltOf cf) A B ++ S)).toArray) by
          rcases hst with ⟨hmm, hst, hr⟩ | ⟨hmm, hst, hr⟩
          · rw [hr] at hall
            exact sym_gen_hi L enc cf g cb blk off cap N a m b mid (mid + m) p st0 d0 _ _ w0 w eg hcmp R hs hd W (by omega) (by omega) (by omega) hsz emid rfl ep hmm hst hall.1 hall.2
          · rw [hr, hst] at hall
            exact sym_gen_lo L enc cf g cb blk off cap N a m b mid (mid + m) p d0 _ _ w0 w eg hcmp R hs hd W (by omega) (by omega) (by omega) hsz emid rfl ep hmm hall.1 hall.2
        constructor
        · intro s t h1 h2 h3 h4
          rw [jA s (by omega) (by omega), jB (p - s) (by omega) (by omega)] at h4
          rw [jA t (by omega) (by omega), jB (p - t) (by omega) (by omega)]
          cases hc : ltOf cf (B[p - t - m]'(by omega)) (A[t - a]'(by omega)) with
          | true => rfl
          | false =>
            have q1 := oA.at O (show s - a ≤ t - a by omega) (by omega)
            have q2 := oB.at O (show p - t - m ≤ p - s - m by omega) (by omega)
            have := O.trans _ _ _ (O.trans _ _ _ q1 hc) q2
            rw [this] at h4
            cases h4
        · intro s en h1 h2 h3 hlow hhigh
          have b1 : a ≤ s := by omega
          have b2 : s ≤ m := by omega
          have b3 : m ≤ en := by omega
          have b4 : en ≤ b := by omega
          obtain ⟨A1, A2, rfl, hA1l⟩ : ∃ A1 A2, A = A1 ++ A2 ∧ A1.length = s - a := ⟨A.take (s - a), A.drop (s - a), (List.take_append_drop _ A).symm, by rw [List.length_take]; omega⟩
          obtain ⟨B1, B2, rfl, hB1l⟩ : ∃ B1 B2, B = B1 ++ B2 ∧ B1.length = en - m := ⟨B.take (en - m), B.drop (en - m), (List.take_append_drop _ B).symm, by rw [List.length_take]; omega⟩
          have hA2l : A2.length = m - s := by simp only [List.length_append] at em; omega
          have hB2l : B2.length = b - en := by simp only [List.length_append] at eb em; omega
          have oA' := List.pairwise_append.1 oA
          have oB' := List.pairwise_append.1 oB
          have s1 : ∀ x ∈ A1, ∀ y ∈ B2, ltOf cf y x = false := by
            intro x hx y hy
            have hA0 : 0 < A1.length := List.length_pos_of_mem hx
            have hB0 : 0 < B2.length := List.length_pos_of_mem hy
            have hq := hlow (s - 1) (by omega) (by omega)
            rw [jA (s - 1) (by omega) (by omega), jB (p - (s - 1)) (by omega) (by omega)] at hq
            obtain ⟨i, hi, rfl⟩ := List.mem_iff_getElem.1 hx
            obtain ⟨j, hj, rfl⟩ := List.mem_iff_getElem.1 hy
            have q1 := oA.at O (show i ≤ s - 1 - a by omega) (by rw [List.length_append]; omega)
            have q2 := oB.at O (show p - (s - 1) - m ≤ B1.length + j by omega) (by rw [List.length_append]; omega)
            have q3 := O.trans _ _ _ (O.trans _ _ _ q1 hq) q2
            rwa [List.getElem_append_left hi, List.getElem_append_right (by omega), getElem_congr_idx (show B1.length + j - B1.length = j by omega)] at q3
          have s2 : ∀ y ∈ B1, ∀ x ∈ A2, ltOf cf y x = true := by
            intro y hy x hx
            have hA0 : 0 < A2.length := List.length_pos_of_mem hx
            have hB0 : 0 < B1.length := List.length_pos_of_mem hy
            have hq := hhigh s (by omega) (by omega)
            rw [jA s (by omega) (by omega), jB (p - s) (by omega) (by omega)] at hq
            obtain ⟨i, hi, rfl⟩ := List.mem_iff_getElem.1 hx
            obtain ⟨j, hj, rfl⟩ := List.mem_iff_getElem.1 hy
            cases hc : ltOf cf B1[j] A2[i] with
            | true => rfl
            | false =>
              have q1 := oA.at O (show s - a ≤ A1.length + i by omega) (by rw [List.length_append]; omega)
              have q2 := oB.at O (show j ≤ p - s - m by omega) (by rw [List.length_append]; omega)
              rw [List.getElem_append_right (by omega), getElem_congr_idx (show A1.length + i - A1.length = i by omega)] at q1
              rw [List.getElem_append_left hj] at q2
              have := O.trans _ _ _ (O.trans _ _ _ q1 hc) q2
              rw [this] at hq
              cases hq
          refine ⟨(Pp ++ (A1 ++ (B1 ++ (A2 ++ (B2 ++ S))))).toArray, (Pp ++ (mg (ltOf cf) A1 B1 ++ (A2 ++ (B2 ++ S)))).toArray, ?_, ?_, ?_, ?_, ?_, ?_⟩
          · rintro ⟨c1, c2⟩ w1 (W1 : SWK _ _ _ _ _ _ _)
            have := rotate_lists L enc g cb blk off cap N d0 w0 w1 (Pp ++ A1) A2 B1 (B2 ++ S) s m en R hs (by simp at hl ⊢; omega) (by simpa using W1) (by omega) (by omega) (by simp; omega) (by simp; omega) (by simp; omega) hsz
            rw [List.append_assoc] at this
            exact this
          · intro hn
            by_cases c1 : s < m
            · have : B1 = [] := List.eq_nil_of_length_eq_zero (by omega)
              subst this
              simp
            · have : A2 = [] := List.eq_nil_of_length_eq_zero (by omega)
              subst this
              simp
          · rintro ⟨c1, c2⟩ w1 (W1 : SWK _ _ _ _ _ _ _)
            exact ih Pp A1 B1 (A2 ++ (B2 ++ S)) w1 (by simp at hlen; omega) (by omega) (by omega) oA'.1 oB'.1 (by simp at hl ⊢; omega) W1 a s mid (by omega) (by omega) (by omega)
          · intro hn
            by_cases c1 : a < s
            · have : B1 = [] := List.eq_nil_of_length_eq_zero (by omega)
              subst this
              simp [mg_nil_right]
            · have : A1 = [] := List.eq_nil_of_length_eq_zero (by omega)
              subst this
              simp [mg_nil_left]
          · rintro ⟨c1, c2⟩ w1 (W1 : SWK _ _ _ _ _ _ _)
            have hml : (mg (ltOf cf) A1 B1).length = A1.length + B1.length := mg_length _ _
            have := ih (Pp ++ mg (ltOf cf) A1 B1) A2 B2 S w1 (by simp at hlen; omega) (by omega) (by omega) oA'.2.1 oB'.2.1 (by simp at hl ⊢; omega) (by rw [List.append_assoc]; exact W1) mid en b (by simp; omega) (by simp; omega) (by simp; omega)
            have e5 : Pp ++ mg (ltOf cf) A1 B1 ++ (mg (ltOf cf) A2 B2 ++ S) = Pp ++ (mg (ltOf cf) A1 B1 ++ mg (ltOf cf) A2 B2 ++ S) := by simp
            rw [e5] at this
            rw [mg_split A1 A2 B1 B2 s1 s2]
            exact this
          · intro hn
            rw [mg_split A1 A2 B1 B2 s1 s2]
            by_cases c1 : en < b
            · have : A2 = [] := List.eq_nil_of_length_eq_zero (by omega)
              subst this
              simp [mg_nil_left]
            · have : B2 = [] := List.eq_nil_of_length_eq_zero (by omega)
              subst this
              simp [mg_nil_right]

end Go.Proofs.YtjlbkdghlijoeaaGreat
