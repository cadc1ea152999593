/-
  The library's merge in place of one element and a range, at elements of k cells, from a world of the sort's to a world of the sort's.
  The library's merge in place, at elements of k cells, from a world of the sort's to a world of the sort's: both of two or more.
  The library's merge in place, at elements of k cells, from a world of the sort's to a world of the sort's: both of two or more.
-/
import Derived.Test.YtjlbkdghlijoeaaGreatStable
namespace Go.Proofs.YtjlbkdghlijoeaaGreat
open Go.Shelf Go.RowKit Go.Lib Go.Sort
variable {P : Program} {α : Type} [Inhabited α] {k : Nat}

/-- One element goes up, so far. -/
def swUp (d : Array α) (a : Nat) : Nat → Array α
  | 0 => d
  | q + 1 => swp (swUp d a q) (a + q) (a + q + 1)
theorem size_swUp (d : Array α) (a : Nat) : ∀ q, (swUp d a q).size = d.size
  | 0 => rfl
  | q + 1 => by rw [swUp, size_swp, size_swUp d a q]
/-- One element goes down, so far. -/
def swDown (d : Array α) (m : Nat) : Nat → Array α
  | 0 => d
  | q + 1 => swp (swDown d m q) (m - q) (m - q - 1)
theorem size_swDown (d : Array α) (m : Nat) : ∀ q, (swDown d m q).size = d.size
  | 0 => rfl
  | q + 1 => by rw [swDown, size_swp, size_swDown d m q]

/-- The middle of two, as the library computes it. -/
theorem half_u {i j : Nat} (h : i + j < 4611686018427387904) : IntKind.u64.wrap ((i : Int) + (j : Int)) = (i : Int) + (j : Int) := by rw [IntKind.wrap_u64]; omega

set_option maxHeartbeats 8000000 in
set_option maxRecDepth 1000000 in
theorem sym_one (L : Lay P k) (enc : α → List Value) (cf : α → α → Int) (g : Nat) (cb : Array Value) (blk off cap N a m b : Nat) (d0 d : Array α) (w0 w : World)
    (eg : ∀ args w, (callFunc g args).run P w = .ok (.enter g args) w) (hcmp : CmpLays P g cb enc k cf blk off d0.size w0)
    (R : RowK enc k w0 blk off d0) (hs : d0.size = N) (hd : d.size = N) (S : SWK enc k w0 blk off d w) (hm : m = a + 1) (hmb : m < b) (hb : b ≤ N) (hsz : N < 1152921504606846976)
    (ord : ∀ s t, m ≤ s → s < t → t < b → ltOf cf d[s]! d[a]! = false → ltOf cf d[t]! d[a]! = false) :
    Calls P 152 #[.slice (some ⟨blk, off, none⟩) N cap, .int .i64 a, .int .i64 m, .int .i64 b, .func (.func g) #[] cb] w fun e w' => e = .returned (.tuple #[]) ∧
      ∃ i, m ≤ i ∧ i ≤ b ∧ (∀ t, m ≤ t → t < i → ltOf cf d[t]! d[a]! = true) ∧ (∀ t, i ≤ t → t < b → ltOf cf d[t]! d[a]! = false) ∧ SWK enc k w0 blk off (swUp d a (i - m)) w' := by
  have mixed := L.mixed; have t0 := L.t0; have a0 := L.a0; have z0 := L.z0; have v0 := L.v0; have t3 := L.t3; have a3 := L.a3; have z3 := L.z3; have v3 := L.v3; have t4 := L.t4; have a4 := L.a4; have z4 := L.z4; have v4 := L.v4; have t22 := L.t22; have a22 := L.a22; have z22 := L.z22; have v22 := L.v22; have t25 := L.t25; have a25 := L.a25; have z25 := L.z25; have v25 := L.v25; have t56 := L.t56; have a56 := L.a56; have z56 := L.z56; have v56 := L.v56; have aE := L.aE; have zE := L.zE
  have FG := L.fSym
  have HC : Aside _ := hcmp
  have S0 : Aside (SWK enc k w0 blk off d w) := S
  have OR : Aside _ := ord
  have h1 : (m : Int) - (a : Int) = 1 := by omega
  have HM : Hid (m = a + 1) := hm
  clear hcmp S ord hm
  go_enter FG, Tryz.ntmps152
  go_wp2
  go_loopg [10, 11] (b - m) (fun kx s10 s11 wr => ∃ (i j : Nat), s10 = .int .i64 i ∧ s11 = .int .i64 j ∧ m ≤ i ∧ i ≤ j ∧ j ≤ b ∧ j - i ≤ kx ∧ Aside ((∀ t, m ≤ t → t < i → ltOf cf d[t]! d[a]! = true) ∧ (∀ t, j ≤ t → t < b → ltOf cf d[t]! d[a]! = false)) ∧ Aside (SWK enc k w0 blk off d wr))
  case atStart => exact ⟨m, b, rfl, rfl, Nat.le_refl _, by omega, Nat.le_refl _, Nat.le_refl _, ⟨fun t h h' => by omega, fun t h h' => by omega⟩, S0⟩
  case round =>
    clear S0
    obtain ⟨i, j, rfl, rfl, hi, hij, hj, hkx, H, S1⟩ := hrel
    by_cases hlt : i < j
    · have hz : (i : Int) < (j : Int) := by omega
      have hu := half_u (i := i) (j := j) (by omega)
      obtain ⟨h, hhe, hih, hhj⟩ : ∃ h : Nat, ((i : Int) + (j : Int)) / 2 = (h : Int) ∧ i ≤ h ∧ h < j := ⟨(i + j) / 2, by omega, by omega, by omega⟩
      cases hL : ltOf cf d[h]! d[a]! with
      | true =>
        have ea5 : ((h : Int)).toNat = h := by omega
        have pa5 : (0 : Int) ≤ (h : Int) := by omega
        have ba5 : (h : Int) < (N : Int) := by omega
        have ra5 : IntKind.i64.wrap ((h : Int)) = (h : Int) := by rw [IntKind.wrap_i64]; omega
        have ec5 : ((a : Int)).toNat = a := by omega
        have pc5 : (0 : Int) ≤ (a : Int) := by omega
        have bc5 : (a : Int) < (N : Int) := by omega
        have rc5 : IntKind.i64.wrap ((a : Int)) = (a : Int) := by rw [IntKind.wrap_i64]; omega
        obtain ⟨x5, hx5⟩ : ∃ x, x = d[h]! := ⟨_, rfl⟩
        obtain ⟨y5, hy5⟩ : ∃ x, x = d[a]! := ⟨_, rfl⟩
        have l5a := S1.out.ld R (by omega) P (h) (by omega)
        have l5b := S1.out.ld R (by omega) P (a) (by omega)
        rw [← hx5] at l5a
        rw [← hy5] at l5b
        have hc5 := S1.out.cmp HC.out (by omega) x5 y5
        have hv5 : cf x5 y5 < 0 := by rw [hx5, hy5]; exact of_decide_eq_true hL
        have hd5 : decide (cf x5 y5 < 0) = true := decide_eq_true hv5
        clear hx5 hy5
        go_wp2_with fail
        go_quiet_grown (first | (go_at_fn g; refine Calls.grown_of (hc5 _ _)))
        have S2 : Aside (SWK enc k w0 blk off d (grow (wr.drewN nq) osq)) := S1.out.grown nq osq
        clear l5a l5b hc5 S1
        generalize grow (wr.drewN nq) osq = w2 at S2 ⊢
        clear nq osq
        go_wp2
        go_roundg (j - (h + 1))
        case measure => omega
        case rel =>
          refine ⟨h + 1, j, by simp, rfl, by omega, by omega, hj, Nat.le_refl _, ⟨fun t h1 h2 => ?_, H.out.2⟩, S2⟩
          by_cases hth : t < i
          · exact H.out.1 t h1 hth
          · cases ht : ltOf cf d[t]! d[a]! with
            | true => rfl
            | false =>
              by_cases hte : t = h
              · rw [hte, hL] at ht; cases ht
              · have := OR.out t h h1 (by omega) (by omega) ht
                rw [hL] at this; cases this
      | false =>
        have ea5 : ((h : Int)).toNat = h := by omega
        have pa5 : (0 : Int) ≤ (h : Int) := by omega
        have ba5 : (h : Int) < (N : Int) := by omega
        have ra5 : IntKind.i64.wrap ((h : Int)) = (h : Int) := by rw [IntKind.wrap_i64]; omega
        have ec5 : ((a : Int)).toNat = a := by omega
        have pc5 : (0 : Int) ≤ (a : Int) := by omega
        have bc5 : (a : Int) < (N : Int) := by omega
        have rc5 : IntKind.i64.wrap ((a : Int)) = (a : Int) := by rw [IntKind.wrap_i64]; omega
        obtain ⟨x5, hx5⟩ : ∃ x, x = d[h]! := ⟨_, rfl⟩
        obtain ⟨y5, hy5⟩ : ∃ x, x = d[a]! := ⟨_, rfl⟩
        have l5a := S1.out.ld R (by omega) P (h) (by omega)
        have l5b := S1.out.ld R (by omega) P (a) (by omega)
        rw [← hx5] at l5a
        rw [← hy5] at l5b
        have hc5 := S1.out.cmp HC.out (by omega) x5 y5
        have hv5 : ¬ cf x5 y5 < 0 := by rw [hx5, hy5]; exact of_decide_eq_false hL
        have hd5 : decide (cf x5 y5 < 0) = false := decide_eq_false hv5
        clear hx5 hy5
        go_wp2_with fail
        go_quiet_grown (first | (go_at_fn g; refine Calls.grown_of (hc5 _ _)))
        have S2 : Aside (SWK enc k w0 blk off d (grow (wr.drewN nq) osq)) := S1.out.grown nq osq
        clear l5a l5b hc5 S1
        generalize grow (wr.drewN nq) osq = w2 at S2 ⊢
        clear nq osq
        go_wp2
        go_roundg (h - i)
        case measure => omega
        case rel =>
          refine ⟨i, h, rfl, rfl, hi, by omega, by omega, Nat.le_refl _, ⟨H.out.1, fun t h1 h2 => ?_⟩, S2⟩
          by_cases hth : j ≤ t
          · exact H.out.2 t hth h2
          · by_cases hte : t = h
            · rw [hte]; exact hL
            · exact OR.out h t (by omega) (by omega) h2 hL
    · have hz : ¬ (i : Int) < (j : Int) := by omega
      obtain rfl : i = j := by omega
      go_wp2
      go_loopg [13] (i - m) (fun kx s13 wr => ∃ (kk q : Nat), s13 = .int .i64 kk ∧ Hid (kk = a + q) ∧ kk + kx + 1 = i ∧ a ≤ kk ∧ Aside (SWK enc k w0 blk off (swUp d a q) wr))
      case atStart => exact ⟨a, 0, rfl, rfl, by have := HM.out; omega, Nat.le_refl _, S1⟩
      case round =>
        clear S1
        obtain ⟨kk, q, rfl, HK, hkk, hak, S1⟩ := hrel
        by_cases hlt : kk + 1 < i
        · have hz2 : (kk : Int) < (i : Int) - 1 := by omega
          obtain ⟨dk, hdk⟩ : ∃ dk, dk = swUp d a q := ⟨_, rfl⟩
          have hds : dk.size = N := by rw [hdk, size_swUp, hd]
          have hdn : swUp d a (q + 1) = swp dk kk (kk + 1) := by rw [swUp, hdk, HK.out]
          rw [← hdk] at S1
          have ea6 : ((kk : Int)).toNat = kk := by omega
          have pa6 : (0 : Int) ≤ (kk : Int) := by omega
          have ba6 : (kk : Int) < (N : Int) := by omega
          have ra6 : IntKind.i64.wrap ((kk : Int)) = (kk : Int) := by rw [IntKind.wrap_i64]; omega
          have ec6 : ((kk : Int) + 1).toNat = kk + 1 := by omega
          have pc6 : (0 : Int) ≤ (kk : Int) + 1 := by omega
          have bc6 : (kk : Int) + 1 < (N : Int) := by omega
          have rc6 : IntKind.i64.wrap ((kk : Int) + 1) = (kk : Int) + 1 := by rw [IntKind.wrap_i64]; omega
          have S2 : Aside (SWK enc k w0 blk off (swp dk (kk) (kk + 1)) ((wr.drew.setCells blk (off + (kk) * k) (enc dk[kk + 1]!)).setCells blk (off + (kk + 1) * k) (enc dk[kk]!))) := S1.out.swapped R (kk) (kk + 1) (by omega) (by omega)
          have l6a := S1.out.ld1 R (by omega) P (kk) (by omega)
          have l6b := S1.out.ld1 R (by omega) P (kk + 1) (by omega)
          have s6a := S1.out.st1 R (by omega) P (kk) (by omega) dk[kk + 1]!
          have s6b := S1.out.st2 R (by omega) P (kk) (kk + 1) (by omega) (by omega) dk[kk + 1]! dk[kk]!
          have n6a : (enc dk[kk]!).length = k := R.hk _
          have n6b : (enc dk[kk + 1]!).length = k := R.hk _
          rw [← hdn] at S2
          generalize enc dk[kk]! = cI6 at S2 l6a s6b n6a
          generalize enc dk[kk + 1]! = cJ6 at S2 l6b s6a s6b n6b
          clear S1
          go_wp2_with fail
          go_big_region_o
          clear l6a l6b s6a s6b
          generalize (wr.drew.setCells blk (off + (kk) * k) cJ6).setCells blk (off + (kk + 1) * k) cI6 = w2 at S2 ⊢
          clear hdn hdk hds dk
          go_wp2
          go_roundg (i - 1 - (kk + 1))
          case measure => omega
          case rel => exact ⟨kk + 1, q + 1, by simp, by show kk + 1 = a + (q + 1); have := HK.out; omega, by omega, by omega, S2⟩
        · have hz2 : ¬ (kk : Int) < (i : Int) - 1 := by omega
          go_wp2
          refine bodyPost_ret (results_none rfl _ _ _) rfl ?_
          refine ⟨rfl, i, hi, hj, H.out.1, H.out.2, ?_⟩
          have : i - m = q := by have := HK.out; have := HM.out; omega
          rw [this]
          exact S1.out

end Go.Proofs.YtjlbkdghlijoeaaGreat
namespace Go.Proofs.YtjlbkdghlijoeaaGreat
open Go.Shelf Go.RowKit Go.Lib Go.Sort
variable {P : Program} {α : Type} [Inhabited α] {k : Nat}

/-- A call that answers nothing leads from worlds of X to worlds of Y. -/
def Does (P : Program) (f : FuncId) (args : Array Value) (X Y : World → Prop) : Prop := ∀ w, X w → Calls P f args w fun e w' => e = .returned (.tuple #[]) ∧ Y w'

/-- What comes behind the search, at s: the rotation and the two merges, each where it is called at all. -/
def SymCont (P : Program) (enc : α → List Value) (k : Nat) (w0 : World) (blk off cap N g : Nat) (cb : Array Value) (a m b mid s en : Nat) (d dT : Array α) : Prop :=
  ∃ d2 d3 : Array α,
    ((s < m ∧ m < en) → Does P 154 #[.slice (some ⟨blk, off, none⟩) N cap, .int .i64 s, .int .i64 m, .int .i64 en, .func (.func g) #[] cb] (fun w => Aside (SWK enc k w0 blk off d w)) (fun w => Aside (SWK enc k w0 blk off d2 w))) ∧
    (¬ (s < m ∧ m < en) → d2 = d) ∧
    ((a < s ∧ s < mid) → Does P 152 #[.slice (some ⟨blk, off, none⟩) N cap, .int .i64 a, .int .i64 s, .int .i64 mid, .func (.func g) #[] cb] (fun w => Aside (SWK enc k w0 blk off d2 w)) (fun w => Aside (SWK enc k w0 blk off d3 w))) ∧
    (¬ (a < s ∧ s < mid) → d3 = d2) ∧
    ((mid < en ∧ en < b) → Does P 152 #[.slice (some ⟨blk, off, none⟩) N cap, .int .i64 mid, .int .i64 en, .int .i64 b, .func (.func g) #[] cb] (fun w => Aside (SWK enc k w0 blk off d3 w)) (fun w => Aside (SWK enc k w0 blk off dT w))) ∧
    (¬ (mid < en ∧ en < b) → dT = d3)


end Go.Proofs.YtjlbkdghlijoeaaGreat
namespace Go.Proofs.YtjlbkdghlijoeaaGreat
open Go.Shelf Go.RowKit Go.Lib Go.Sort
variable {P : Program} {α : Type} [Inhabited α] {k : Nat}

set_option maxHeartbeats 16000000 in
set_option maxRecDepth 1000000 in
theorem sym_gen_lo (L : Lay P k) (enc : α → List Value) (cf : α → α → Int) (g : Nat) (cb : Array Value) (blk off cap N a m b mid n p : Nat) (d0 d dT : Array α) (w0 w : World)
    (eg : ∀ args w, (callFunc g args).run P w = .ok (.enter g args) w) (hcmp : CmpLays P g cb enc k cf blk off d0.size w0)
    (R : RowK enc k w0 blk off d0) (hs : d0.size = N) (hd : d.size = N) (S : SWK enc k w0 blk off d w) (ham : a + 1 < m) (hmb : m + 1 < b) (hb : b ≤ N) (hsz : N < 1152921504606846976)
    (hmid : mid = (a + b) / 2) (hn : n = mid + m) (hp : p + 1 = n) (hmm : m ≤ mid)
    (ord : ∀ s t, a ≤ s → s < t → t < m → ltOf cf d[p - s]! d[s]! = true → ltOf cf d[p - t]! d[t]! = true)
    (cont : ∀ s en, a ≤ s → s ≤ m → s + en = n → (∀ c, a ≤ c → c < s → ltOf cf d[p - c]! d[c]! = false) → (∀ c, s ≤ c → c < m → ltOf cf d[p - c]! d[c]! = true) → SymCont P enc k w0 blk off cap N g cb a m b mid s en d dT) :
    Calls P 152 #[.slice (some ⟨blk, off, none⟩) N cap, .int .i64 a, .int .i64 m, .int .i64 b, .func (.func g) #[] cb] w fun e w' => e = .returned (.tuple #[]) ∧ SWK enc k w0 blk off dT w' := by
  have mixed := L.mixed; have t0 := L.t0; have a0 := L.a0; have z0 := L.z0; have v0 := L.v0; have t3 := L.t3; have a3 := L.a3; have z3 := L.z3; have v3 := L.v3; have t4 := L.t4; have a4 := L.a4; have z4 := L.z4; have v4 := L.v4; have t22 := L.t22; have a22 := L.a22; have z22 := L.z22; have v22 := L.v22; have t25 := L.t25; have a25 := L.a25; have z25 := L.z25; have v25 := L.v25; have t56 := L.t56; have a56 := L.a56; have z56 := L.z56; have v56 := L.v56; have aE := L.aE; have zE := L.zE
  have FG := L.fSym
  have e47 : ∀ args w, (callFunc 154 args).run P w = .ok (.enter 154 args) w := enters_of L.fRot (by kernel_rfl) rfl
  have e46 : ∀ args w, (callFunc 152 args).run P w = .ok (.enter 152 args) w := enters_of L.fSym (by kernel_rfl) rfl
  have HC : Aside _ := hcmp
  have S0 : Aside (SWK enc k w0 blk off d w) := S
  have OR : Aside _ := ord
  have CO : Aside _ := cont
  have h1 : ((m : Int) - (a : Int) == 1) = false := by simp; omega
  have h2 : ((b : Int) - (m : Int) == 1) = false := by simp; omega
  have hu0 := half_u (i := a) (j := b) (by omega)
  have hm1 : ((a : Int) + (b : Int)) / 2 = (mid : Int) := by omega
  have hn1 : (mid : Int) + (m : Int) = (n : Int) := by omega
  have hp1 : (n : Int) - 1 = (p : Int) := by omega
  have hmN : mid < N := by omega
  have hnN : n < 2 * N := by omega
  have hpN : p < 2 * N := by omega
  have hamid : a < mid := by omega
  have hmidb : mid < b := by omega
  have HP : Hid (p + 1 = n) := hp
  have HN : Hid (n = mid + m) := hn
  clear hcmp S ord cont hmid hn hp
  have hzm : ¬ (mid : Int) < (m : Int) := by omega
  go_enter FG, Tryz.ntmps152
  go_wp2
  go_loopg [20, 21] (m - a) (fun kx s20 s21 wr => ∃ (st r : Nat), s20 = .int .i64 st ∧ s21 = .int .i64 r ∧ a ≤ st ∧ st ≤ r ∧ r ≤ m ∧ r - st ≤ kx ∧ Aside ((∀ c, a ≤ c → c < st → ltOf cf d[p - c]! d[c]! = false) ∧ (∀ c, r ≤ c → c < m → ltOf cf d[p - c]! d[c]! = true)) ∧ Aside (SWK enc k w0 blk off d wr))
  case atStart => exact ⟨a, m, rfl, rfl, Nat.le_refl _, by have := HN.out; omega, Nat.le_refl _, Nat.le_refl _, ⟨fun t h h' => by omega, fun t h h' => by omega⟩, S0⟩
  case round =>
    clear S0
    obtain ⟨st, r, rfl, rfl, hi, hij, hj, hkx, H, S1⟩ := hrel
    by_cases hlt : st < r
    · have hz : (st : Int) < (r : Int) := by omega
      have hu := half_u (i := st) (j := r) (by omega)
      obtain ⟨c, hhe, hic, hcj⟩ : ∃ c : Nat, ((st : Int) + (r : Int)) / 2 = (c : Int) ∧ st ≤ c ∧ c < r := ⟨(st + r) / 2, by omega, by omega, by omega⟩
      have hcp : c ≤ p := by have := HP.out; have := HN.out; omega
      have hpc : p - c < b := by have := HP.out; have := HN.out; omega
      cases hL : ltOf cf d[p - c]! d[c]! with
      | true =>
        have ea5 : ((p : Int) - (c : Int)).toNat = p - c := by omega
        have pa5 : (0 : Int) ≤ (p : Int) - (c : Int) := by omega
        have ba5 : (p : Int) - (c : Int) < (N : Int) := by omega
        have ra5 : IntKind.i64.wrap ((p : Int) - (c : Int)) = (p : Int) - (c : Int) := by rw [IntKind.wrap_i64]; omega
        have ec5 : ((c : Int)).toNat = c := by omega
        have pc5 : (0 : Int) ≤ (c : Int) := by omega
        have bc5 : (c : Int) < (N : Int) := by omega
        have rc5 : IntKind.i64.wrap ((c : Int)) = (c : Int) := by rw [IntKind.wrap_i64]; omega
        obtain ⟨x5, hx5⟩ : ∃ x, x = d[p - c]! := ⟨_, rfl⟩
        obtain ⟨y5, hy5⟩ : ∃ x, x = d[c]! := ⟨_, rfl⟩
        have l5a := S1.out.ld R (by omega) P (p - c) (by omega)
        have l5b := S1.out.ld R (by omega) P (c) (by omega)
        rw [← hx5] at l5a
        rw [← hy5] at l5b
        have hc5 := S1.out.cmp HC.out (by omega) x5 y5
        have hv5 : cf x5 y5 < 0 := by rw [hx5, hy5]; exact of_decide_eq_true hL
        have hd5 : decide (cf x5 y5 < 0) = true := decide_eq_true hv5
        clear hx5 hy5
        go_wp2_with fail
        go_quiet_grown (first | (go_at_fn g; refine Calls.grown_of (hc5 _ _)))
        have S2 : Aside (SWK enc k w0 blk off d (grow (wr.drewN nq) osq)) := S1.out.grown nq osq
        clear l5a l5b hc5 S1
        generalize grow (wr.drewN nq) osq = w2 at S2 ⊢
        clear nq osq
        go_wp2
        go_roundg (c - st)
        case measure => omega
        case rel =>
          refine ⟨st, c, rfl, rfl, hi, by omega, by omega, Nat.le_refl _, ⟨H.out.1, fun t h1 h2 => ?_⟩, S2⟩
          by_cases hte : t = c
          · rw [hte]; exact hL
          · exact OR.out c t (by omega) (by omega) h2 hL
      | false =>
        have ea5 : ((p : Int) - (c : Int)).toNat = p - c := by omega
        have pa5 : (0 : Int) ≤ (p : Int) - (c : Int) := by omega
        have ba5 : (p : Int) - (c : Int) < (N : Int) := by omega
        have ra5 : IntKind.i64.wrap ((p : Int) - (c : Int)) = (p : Int) - (c : Int) := by rw [IntKind.wrap_i64]; omega
        have ec5 : ((c : Int)).toNat = c := by omega
        have pc5 : (0 : Int) ≤ (c : Int) := by omega
        have bc5 : (c : Int) < (N : Int) := by omega
        have rc5 : IntKind.i64.wrap ((c : Int)) = (c : Int) := by rw [IntKind.wrap_i64]; omega
        obtain ⟨x5, hx5⟩ : ∃ x, x = d[p - c]! := ⟨_, rfl⟩
        obtain ⟨y5, hy5⟩ : ∃ x, x = d[c]! := ⟨_, rfl⟩
        have l5a := S1.out.ld R (by omega) P (p - c) (by omega)
        have l5b := S1.out.ld R (by omega) P (c) (by omega)
        rw [← hx5] at l5a
        rw [← hy5] at l5b
        have hc5 := S1.out.cmp HC.out (by omega) x5 y5
        have hv5 : ¬ cf x5 y5 < 0 := by rw [hx5, hy5]; exact of_decide_eq_false hL
        have hd5 : decide (cf x5 y5 < 0) = false := decide_eq_false hv5
        clear hx5 hy5
        go_wp2_with fail
        go_quiet_grown (first | (go_at_fn g; refine Calls.grown_of (hc5 _ _)))
        have S2 : Aside (SWK enc k w0 blk off d (grow (wr.drewN nq) osq)) := S1.out.grown nq osq
        clear l5a l5b hc5 S1
        generalize grow (wr.drewN nq) osq = w2 at S2 ⊢
        clear nq osq
        go_wp2
        go_roundg (r - (c + 1))
        case measure => omega
        case rel =>
          refine ⟨c + 1, r, by simp, rfl, by omega, by omega, hj, Nat.le_refl _, ⟨fun t h1 h2 => ?_, H.out.2⟩, S2⟩
          cases ht : ltOf cf d[p - t]! d[t]! with
          | false => rfl
          | true =>
            by_cases hte : t = c
            · rw [hte, hL] at ht; cases ht
            · have := OR.out t c h1 (by omega) (by omega) ht
              rw [hL] at this; cases this
    · have hz : ¬ (st : Int) < (r : Int) := by omega
      obtain rfl : st = r := by omega
      obtain ⟨en, hen⟩ : ∃ en, en = n - st := ⟨_, rfl⟩
      have hse : st + en = n := by have := HN.out; omega
      have hen1 : (n : Int) - (st : Int) = (en : Int) := by omega
      obtain ⟨d2, d3, c1, c1', c2, c2', c3, c3'⟩ := CO.out st en hi hj hse H.out.1 H.out.2
      have HE : Hid (st + en = n) := hse
      clear hen hse H OR CO HC hkx
      have w12 : st < mid ↔ m < en := by have := HN.out; have := HE.out; omega
      have w13 : mid < en ↔ st < m := by have := HN.out; have := HE.out; omega
      rw [w12] at c2 c2'
      rw [w13] at c3 c3'
      by_cases hA : st < m <;> by_cases hB : m < en <;> by_cases hC : a < st <;> by_cases hD : en < b
      all_goals
        simp only [hA, hB, hC, hD, and_self, and_true, and_false, not_true_eq_false, not_false_eq_true, forall_const, false_implies] at c1 c1' c2 c2' c3 c3'
        try subst c1'
        try subst c2'
        try subst c3'
        go_wp2_with (first | (go_at_fn 154; refine (c1 _ (by assumption)).mono ?_; rintro e w3 ⟨rfl, S3⟩) | (go_at_fn_of 152 (Value.int .i64 a); refine (c2 _ (by assumption)).mono ?_; rintro e w4 ⟨rfl, S4⟩) | (go_at_fn_of 152 (Value.int .i64 b); refine (c3 _ (by assumption)).mono ?_; rintro e w5 ⟨rfl, S5⟩))
        go_end0
        exact ⟨rfl, Aside.out (by assumption)⟩

end Go.Proofs.YtjlbkdghlijoeaaGreat
