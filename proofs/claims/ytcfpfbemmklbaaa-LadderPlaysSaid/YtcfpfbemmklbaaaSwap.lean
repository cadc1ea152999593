
/-
  The library's exchange of two ranges and its rotation, at elements of k cells, from a world of the sort's to a world of the sort's; over every program that bears their bodies.
-/
import Derived.Test.YtcfpfbemmklbaaaStab
import Derived.Test.YtcfpfbemmklbaaaRows
import Derived.Shelf.SlSortCmp.PdqK
namespace Go.Proofs.Ytcfpfbemmklbaaa
open Go.Shelf Go.RowKit Go.Lib Go.Sort

/-- What the walks ask of a program: the bodies, and its types. -/
structure Lay (P : Program) (k : Nat) : Prop where
  mixed : P.follows .mixedOrders = true
  fSwap : P.funcs[73]? = some Try.f73
  fRot : P.funcs[71]? = some Try.f71
  fSym : P.funcs[63]? = some Try.f63
  fStable : P.funcs[54]? = some Try.f54
  t0 : P.underlying 0 = some (TypeDesc.tuple #[])
  a0 : ∀ w, (isAgg 0).run P w = .ok false w
  z0 : ∀ w, (Go.sizeOf 0).run P w = .ok 1 w
  v0 : ∀ w, (zeroValue 0).run P w = .ok (Value.tuple #[]) w
  t3 : P.underlying 3 = some (TypeDesc.int IntKind.i64)
  a3 : ∀ w, (isAgg 3).run P w = .ok false w
  z3 : ∀ w, (Go.sizeOf 3).run P w = .ok 1 w
  v3 : ∀ w, (zeroValue 3).run P w = .ok (Value.int IntKind.i64 0) w
  t4 : P.underlying 4 = some (TypeDesc.bool)
  a4 : ∀ w, (isAgg 4).run P w = .ok false w
  z4 : ∀ w, (Go.sizeOf 4).run P w = .ok 1 w
  v4 : ∀ w, (zeroValue 4).run P w = .ok (Value.bool false) w
  t22 : P.underlying 38 = some (TypeDesc.slice 34)
  a22 : ∀ w, (isAgg 38).run P w = .ok false w
  z22 : ∀ w, (Go.sizeOf 38).run P w = .ok 1 w
  v22 : ∀ w, (zeroValue 38).run P w = .ok (Value.slice none 0 0) w
  t25 : P.underlying 71 = some (TypeDesc.func #[34, 34] #[3] false)
  a25 : ∀ w, (isAgg 71).run P w = .ok false w
  z25 : ∀ w, (Go.sizeOf 71).run P w = .ok 1 w
  v25 : ∀ w, (zeroValue 71).run P w = .ok (Value.nilFunc) w
  t56 : P.underlying 96 = some (TypeDesc.int IntKind.u64)
  a56 : ∀ w, (isAgg 96).run P w = .ok false w
  z56 : ∀ w, (Go.sizeOf 96).run P w = .ok 1 w
  v56 : ∀ w, (zeroValue 96).run P w = .ok (Value.int IntKind.u64 0) w
  aE : ∀ w, (isAgg 34).run P w = .ok true w
  zE : ∀ w, (Go.sizeOf 34).run P w = .ok k w

/-- The exchange of two ranges, so far. -/
def swLoop {α : Type} [Inhabited α] (d : Array α) (a b : Nat) : Nat → Array α
  | 0 => d
  | i + 1 => swp (swLoop d a b i) (a + i) (b + i)
theorem size_swLoop {α : Type} [Inhabited α] (d : Array α) (a b : Nat) : ∀ i, (swLoop d a b i).size = d.size
  | 0 => rfl
  | i + 1 => by rw [swLoop, size_swp, size_swLoop d a b i]

variable {P : Program} {α : Type} [Inhabited α] {k : Nat}

set_option maxHeartbeats 4000000 in
set_option maxRecDepth 1000000 in
theorem swapRange_arr (L : Lay P k) (enc : α → List Value) (g : Nat) (cb : Array Value) (blk off cap a b n : Nat) (d0 d : Array α) (w0 w : World)
    (R : RowK enc k w0 blk off d0) (hs : d0.size = d.size) (S : SWK enc k w0 blk off d w) (ha : a + n ≤ d.size) (hb : b + n ≤ d.size) (hsz : d.size < 1152921504606846976) :
    Calls P 73 #[.slice (some ⟨blk, off, none⟩) d.size cap, .int .i64 a, .int .i64 b, .int .i64 n, .func (.func g) #[] cb] w fun e w' => e = .returned (.tuple #[]) ∧ SWK enc k w0 blk off (swLoop d a b n) w' := by
  have mixed := L.mixed; have t0 := L.t0; have a0 := L.a0; have z0 := L.z0; have v0 := L.v0; have t3 := L.t3; have a3 := L.a3; have z3 := L.z3; have v3 := L.v3; have t4 := L.t4; have a4 := L.a4; have z4 := L.z4; have v4 := L.v4; have t22 := L.t22; have a22 := L.a22; have z22 := L.z22; have v22 := L.v22; have t25 := L.t25; have a25 := L.a25; have z25 := L.z25; have v25 := L.v25; have aE := L.aE; have zE := L.zE
  have FG := L.fSwap
  have S0 : Aside (SWK enc k w0 blk off d w) := S
  clear S
  go_enter FG, Try.ntmps73
  go_wp2
  go_loopg [10] n (fun kx s10 wr => ∃ (i : Nat), s10 = .int .i64 i ∧ i + kx = n ∧ Aside (SWK enc k w0 blk off (swLoop d a b i) wr))
  case atStart => exact ⟨0, rfl, by omega, S0⟩
  case round =>
    clear S0
    obtain ⟨i, rfl, hkx, S1⟩ := hrel
    by_cases hlt : i < n
    · have hz : (i : Int) < n := by omega
      go_wp2_with fail
      have ea : ((a : Int) + (i : Int)).toNat = a + i := by omega
      have pa : (0 : Int) ≤ (a : Int) + (i : Int) := by omega
      have ba : (a : Int) + (i : Int) < (d.size : Int) := by omega
      have ra : IntKind.i64.wrap ((a : Int) + (i : Int)) = (a : Int) + (i : Int) := by rw [IntKind.wrap_i64]; omega
      have ec : ((b : Int) + (i : Int)).toNat = b + i := by omega
      have pc : (0 : Int) ≤ (b : Int) + (i : Int) := by omega
      have bc : (b : Int) + (i : Int) < (d.size : Int) := by omega
      have rc : IntKind.i64.wrap ((b : Int) + (i : Int)) = (b : Int) + (i : Int) := by rw [IntKind.wrap_i64]; omega
      obtain ⟨dk, hdk⟩ : ∃ dk, dk = swLoop d a b i := ⟨_, rfl⟩
      have hds : dk.size = d.size := by rw [hdk, size_swLoop]
      have hdn : swLoop d a b (i + 1) = swp dk (a + i) (b + i) := by rw [swLoop, hdk]
      rw [← hdk] at S1
      have S2 : Aside (SWK enc k w0 blk off (swp dk (a + i) (b + i)) ((wr.drew.setCells blk (off + (a + i) * k) (enc dk[b + i]!)).setCells blk (off + (b + i) * k) (enc dk[a + i]!))) := S1.out.swapped R (a + i) (b + i) (by omega) (by omega)
      have l44a := S1.out.ld1 R (by omega) P (a + i) (by omega)
      have l44b := S1.out.ld1 R (by omega) P (b + i) (by omega)
      have s44a := S1.out.st1 R (by omega) P (a + i) (by omega) dk[b + i]!
      have s44b := S1.out.st2 R (by omega) P (a + i) (b + i) (by omega) (by omega) dk[b + i]! dk[a + i]!
      have n44a : (enc dk[a + i]!).length = k := R.hk _
      have n44b : (enc dk[b + i]!).length = k := R.hk _
      rw [← hdn] at S2
      generalize enc dk[a + i]! = cI44 at S2 l44a s44b n44a
      generalize enc dk[b + i]! = cJ44 at S2 l44b s44a s44b n44b
      clear S1 hdn hdk hds dk
      go_wp2_with fail
      go_big_region_o
      clear l44a l44b s44a s44b
      generalize (wr.drew.setCells blk (off + (a + i) * k) cJ44).setCells blk (off + (b + i) * k) cI44 = w2 at S2 ⊢
      go_wp2
      go_roundg (n - (i + 1))
      case measure => omega
      case rel => exact ⟨i + 1, by simp, by omega, S2⟩
    · have hz : ¬ (i : Int) < n := by omega
      obtain rfl : i = n := by omega
      go_wp2
      go_end0
      exact ⟨rfl, S1.out⟩

end Go.Proofs.Ytcfpfbemmklbaaa
