/-
  The library's exchange of two ranges and its rotation, at elements of k cells, from a world of the sort's to a world of the sort's; over every program that bears their bodies.
  The library's rotation, at elements of k cells, from a world of the sort's to a world of the sort's.
  The library's stable sort over lists: the row comes to the stable order of what it held.
-/
import Derived.Test.YtjlbkdghlijoeaaGreatHP
import Derived.Test.YtjlbkdghlijoeaaGreatRows
import Derived.Shelf.SlSortCmp.PdqK
namespace Go.Proofs.YtjlbkdghlijoeaaGreat
open Go.Shelf Go.RowKit Go.Lib Go.Sort

/-- What the walks ask of a program: the bodies, and its types. -/
structure Lay (P : Program) (k : Nat) : Prop where
  mixed : P.follows .mixedOrders = true
  fSwap : P.funcs[155]? = some Tryz.f155
  fRot : P.funcs[154]? = some Tryz.f154
  fSym : P.funcs[152]? = some Tryz.f152
  fStable : P.funcs[149]? = some Tryz.f149
  t0 : P.underlying 0 = some (TypeDesc.tuple #[])
  a0 : ∀ w, (isAgg 0).run P w = .ok false w
  z0 : ∀ w, (Go.sizeOf 0).run P w = .ok 1 w
  v0 : ∀ w, (zeroValue 0).run P w = .ok (Value.tuple #[]) w
  t3 : P.underlying 3 = some (TypeDesc.int IntKind.i64)
  a3 : ∀ w, (isAgg 3).run P w = .ok false w
  z3 : ∀ w, (Go.sizeOf 3).run P w = .ok 1 w
  v3 : ∀ w, (zeroValue 3).run P w = .ok (Value.int IntKind.i64 0) w
  t4 : P.underlying 4 = some (TypeDesc.bool)
  a4 : ∀ w, (isAgg 4).run P w = .ok false w
  z4 : ∀ w, (Go.sizeOf 4).run P w = .ok 1 w
  v4 : ∀ w, (zeroValue 4).run P w = .ok (Value.bool false) w
  t22 : P.underlying 38 = some (TypeDesc.slice 34)
  a22 : ∀ w, (isAgg 38).run P w = .ok false w
  z22 : ∀ w, (Go.sizeOf 38).run P w = .ok 1 w
  v22 : ∀ w, (zeroValue 38).run P w = .ok (Value.slice none 0 0) w
  t25 : P.underlying 180 = some (TypeDesc.func #[34, 34] #[3] false)
  a25 : ∀ w, (isAgg 180).run P w = .ok false w
  z25 : ∀ w, (Go.sizeOf 180).run P w = .ok 1 w
  v25 : ∀ w, (zeroValue 180).run P w = .ok (Value.nilFunc) w
  t56 : P.underlying 164 = some (TypeDesc.int IntKind.u64)
  a56 : ∀ w, (isAgg 164).run P w = .ok false w
  z56 : ∀ w, (Go.sizeOf 164).run P w = .ok 1 w
  v56 : ∀ w, (zeroValue 164).run P w = .ok (Value.int IntKind.u64 0) w
  aE : ∀ w, (isAgg 34).run P w = .ok true w
  zE : ∀ w, (Go.sizeOf 34).run P w = .ok k w

/-- The exchange of two ranges, so far. -/
def swLoop {α : Type} [Inhabited α] (d : Array α) (a b : Nat) : Nat → Array α
  | 0 => d
  | i + 1 => swp (swLoop d a b i) (a + i) (b + i)
theorem size_swLoop {α : Type} [Inhabited α] (d : Array α) (a b : Nat) : ∀ i, (swLoop d a b i).size = d.size
  | 0 => rfl
  | i + 1 => by rw [swLoop, size_swp, size_swLoop d a b i]

variable {P : Program} {α : Type} [Inhabited α] {k : Nat}

set_option maxHeartbeats 4000000 in
set_option maxRecDepth 1000000 in
theorem swapRange_arr (L : Lay P k) (enc : α → List Value) (g : Nat) (cb : Array Value) (blk off cap a b n : Nat) (d0 d : Array α) (w0 w : World)
    (R : RowK enc k w0 blk off d0) (hs : d0.size = d.size) (S : SWK enc k w0 blk off d w) (ha : a + n ≤ d.size) (hb : b + n ≤ d.size) (hsz : d.size < 1152921504606846976) :
    Calls P 155 #[.slice (some ⟨blk, off, none⟩) d.size cap, .int .i64 a, .int .i64 b, .int .i64 n, .func (.func g) #[] cb] w fun e w' => e = .returned (.tuple #[]) ∧ SWK enc k w0 blk off (swLoop d a b n) w' := by
  have mixed := L.mixed; have t0 := L.t0; have a0 := L.a0; have z0 := L.z0; have v0 := L.v0; have t3 := L.t3; have a3 := L.a3; have z3 := L.z3; have v3 := L.v3; have t4 := L.t4; have a4 := L.a4; have z4 := L.z4; have v4 := L.v4; have t22 := L.t22; have a22 := L.a22; have z22 := L.z22; have v22 := L.v22; have t25 := L.t25; have a25 := L.a25; have z25 := L.z25; have v25 := L.v25; have aE := L.aE; have zE := L.zE
  have FG := L.fSwap
  have S0 : Aside (SWK enc k w0 blk off d w) := S
  clear S
  go_enter FG, Tryz.ntmps155
  go_wp2
  go_loopg [10] n (fun kx s10 wr => ∃ (i : Nat), s10 = .int .i64 i ∧ i + kx = n ∧ Aside (SWK enc k w0 blk off (swLoop d a b i) wr))
  case atStart => exact ⟨0, rfl, by omega, S0⟩
  case round =>
    clear S0
    obtain ⟨i, rfl, hkx, S1⟩ := hrel
    by_cases hlt : i < n
    · have hz : (i : Int) < n := by omega
      go_wp2_with fail
      have ea : ((a : Int) + (i : Int)).toNat = a + i := by omega
      have pa : (0 : Int) ≤ (a : Int) + (i : Int) := by omega
      have ba : (a : Int) + (i : Int) < (d.size : Int) := by omega
      have ra : IntKind.i64.wrap ((a : Int) + (i : Int)) = (a : Int) + (i : Int) := by rw [IntKind.wrap_i64]; omega
      have ec : ((b : Int) + (i : Int)).toNat = b + i := by omega
      have pc : (0 : Int) ≤ (b : Int) + (i : Int) := by omega
      have bc : (b : Int) + (i : Int) < (d.size : Int) := by omega
      have rc : IntKind.i64.wrap ((b : Int) + (i : Int)) = (b : Int) + (i : Int) := by rw [IntKind.wrap_i64]; omega
      obtain ⟨dk, hdk⟩ : ∃ dk, dk = swLoop d a b i := ⟨_, rfl⟩
      have hds : dk.size = d.size := by rw [hdk, size_swLoop]
      have hdn : swLoop d a b (i + 1) = swp dk (a + i) (b + i) := by rw [swLoop, hdk]
      rw [← hdk] at S1
      have S2 : Aside (SWK enc k w0 blk off (swp dk (a + i) (b + i)) ((wr.drew.setCells blk (off + (a + i) * k) (enc dk[b + i]!)).setCells blk (off + (b + i) * k) (enc dk[a + i]!))) := S1.out.swapped R (a + i) (b + i) (by omega) (by omega)
      have l44a := S1.out.ld1 R (by omega) P (a + i) (by omega)
      have l44b := S1.out.ld1 R (by omega) P (b + i) (by omega)
      have s44a := S1.out.st1 R (by omega) P (a + i) (by omega) dk[b + i]!
      have s44b := S1.out.st2 R (by omega) P (a + i) (b + i) (by omega) (by omega) dk[b + i]! dk[a + i]!
      have n44a : (enc dk[a + i]!).length = k := R.hk _
      have n44b : (enc dk[b + i]!).length = k := R.hk _
      rw [← hdn] at S2
      generalize enc dk[a + i]! = cI44 at S2 l44a s44b n44a
      generalize enc dk[b + i]! = cJ44 at S2 l44b s44a s44b n44b
      clear S1 hdn hdk hds dk
      go_wp2_with fail
      go_big_region_o
      clear l44a l44b s44a s44b
      generalize (wr.drew.setCells blk (off + (a + i) * k) cJ44).setCells blk (off + (b + i) * k) cI44 = w2 at S2 ⊢
      go_wp2
      go_roundg (n - (i + 1))
      case measure => omega
      case rel => exact ⟨i + 1, by simp, by omega, S2⟩
    · have hz : ¬ (i : Int) < n := by omega
      obtain rfl : i = n := by omega
      go_wp2
      go_end0
      exact ⟨rfl, S1.out⟩

end Go.Proofs.YtjlbkdghlijoeaaGreat
namespace Go.Proofs.YtjlbkdghlijoeaaGreat
open Go.Shelf Go.RowKit Go.Lib Go.Sort
variable {P : Program} {α : Type} [Inhabited α] {k : Nat}

theorem swLoop_lists (Pp X Q Y S : List α) (hXY : X.length = Y.length) : ∀ i, i ≤ X.length →
    swLoop (Pp ++ (X ++ (Q ++ (Y ++ S)))).toArray Pp.length (Pp.length + X.length + Q.length) i = (Pp ++ (Y.take i ++ (X.drop i ++ (Q ++ (X.take i ++ (Y.drop i ++ S)))))).toArray
  | 0, _ => by simp [swLoop]
  | i + 1, h => by
    have hX : i < X.length := by omega
    have hY : i < Y.length := by omega
    rw [swLoop, swLoop_lists Pp X Q Y S hXY i (by omega), List.drop_eq_getElem_cons hX, List.drop_eq_getElem_cons hY]
    have := swp_lists (Pp ++ Y.take i) (X.drop (i + 1) ++ (Q ++ X.take i)) (Y.drop (i + 1) ++ S) X[i] Y[i] (Pp.length + i) (Pp.length + X.length + Q.length + i) (by simp; omega) (by simp; omega)
    rw [List.take_succ_eq_append_getElem hX, List.take_succ_eq_append_getElem hY]
    simp only [List.append_assoc, List.cons_append, List.nil_append] at this ⊢
    exact this
theorem swLoop_whole (Pp X Q Y S : List α) (hXY : X.length = Y.length) (a b n : Nat) (ha : a = Pp.length) (hb : b = Pp.length + X.length + Q.length) (hn : n = X.length) :
    swLoop (Pp ++ (X ++ (Q ++ (Y ++ S)))).toArray a b n = (Pp ++ (Y ++ (Q ++ (X ++ S)))).toArray := by
  subst ha hb hn
  rw [swLoop_lists Pp X Q Y S hXY _ (Nat.le_refl _), List.take_of_length_le (by omega), List.drop_of_length_le (Nat.le_refl _), List.take_of_length_le (Nat.le_refl _), List.drop_of_length_le (by omega)]
  simp

theorem swapRange_lists (L : Lay P k) (enc : α → List Value) (g : Nat) (cb : Array Value) (blk off cap N : Nat) (d0 : Array α) (w0 w : World) (Pp X Q Y S : List α) (az bz nz : Int)
    (R : RowK enc k w0 blk off d0) (hs : d0.size = N) (hN : (Pp ++ (X ++ (Q ++ (Y ++ S)))).length = N) (W : SWK enc k w0 blk off (Pp ++ (X ++ (Q ++ (Y ++ S)))).toArray w) (hXY : X.length = Y.length)
    (ha : az = Pp.length) (hb : bz = (Pp.length + X.length + Q.length : Nat)) (hn : nz = X.length) (hsz : N < 1152921504606846976) :
    Calls P 155 #[.slice (some ⟨blk, off, none⟩) N cap, .int .i64 az, .int .i64 bz, .int .i64 nz, .func (.func g) #[] cb] w fun e w' => e = .returned (.tuple #[]) ∧ SWK enc k w0 blk off (Pp ++ (Y ++ (Q ++ (X ++ S)))).toArray w' := by
  subst ha hb hn
  have hd : (Pp ++ (X ++ (Q ++ (Y ++ S)))).toArray.size = N := by rw [List.size_toArray, hN]
  have hl : Pp.length + (X.length + (Q.length + (Y.length + S.length))) = N := by simpa using hN
  have := swapRange_arr L enc g cb blk off cap Pp.length (Pp.length + X.length + Q.length) X.length d0 _ w0 w R (hs.trans hd.symm) W (by rw [hd]; omega) (by rw [hd]; omega) (by rw [hd]; exact hsz)
  rw [swLoop_whole Pp X Q Y S hXY _ _ _ rfl rfl rfl, hd] at this
  exact this

/-- Where the rotation stands: what is left to be rotated, and that it comes to T. -/
def RotAt (enc : α → List Value) (k : Nat) (w0 : World) (blk off m N : Nat) (T : List α) (i j : Nat) (wr : World) : Prop :=
  ∃ P' A' B' S' : List α, A'.length = i ∧ B'.length = j ∧ P'.length + i = m ∧ (P' ++ (A' ++ (B' ++ S'))).length = N ∧ P' ++ (B' ++ (A' ++ S')) = T ∧ SWK enc k w0 blk off (P' ++ (A' ++ (B' ++ S'))).toArray wr

section
variable {enc : α → List Value} {blk off m N : Nat} {T : List α} {i j : Nat} {wr w0 : World} {d0 : Array α}
theorem rot_end (L : Lay P k) (g : Nat) (cb : Array Value) (cap : Nat) (R : RowK enc k w0 blk off d0) (hs : d0.size = N) (hsz : N < 1152921504606846976) (h : RotAt enc k w0 blk off m N T i i wr) :
    Calls P 155 #[.slice (some ⟨blk, off, none⟩) N cap, .int .i64 ((m : Int) - (i : Int)), .int .i64 (m : Int), .int .i64 (i : Int), .func (.func g) #[] cb] wr fun e w' => e = .returned (.tuple #[]) ∧ Aside (SWK enc k w0 blk off T.toArray w') := by
  obtain ⟨P', A', B', S', hA, hB, hP, hN, hT, W⟩ := h
  have := swapRange_lists L enc g cb blk off cap N d0 w0 wr P' A' [] B' S' ((m : Int) - (i : Int)) (m : Int) (i : Int) R hs hN W (hA.trans hB.symm) (by omega) (by simp; omega) (by omega) hsz
  rw [← hT]
  exact this
theorem rot_gt (L : Lay P k) (g : Nat) (cb : Array Value) (cap : Nat) (R : RowK enc k w0 blk off d0) (hs : d0.size = N) (hsz : N < 1152921504606846976) (hij : j < i) (h : RotAt enc k w0 blk off m N T i j wr) :
    Calls P 155 #[.slice (some ⟨blk, off, none⟩) N cap, .int .i64 ((m : Int) - (i : Int)), .int .i64 (m : Int), .int .i64 (j : Int), .func (.func g) #[] cb] wr fun e w' => e = .returned (.tuple #[]) ∧ Aside (RotAt enc k w0 blk off m N T (i - j) j w') := by
  obtain ⟨P', A', B', S', hA, hB, hP, hN, hT, W⟩ := h
  obtain ⟨A1, A2, hA12, h1⟩ : ∃ A1 A2, A' = A1 ++ A2 ∧ A1.length = j := ⟨A'.take j, A'.drop j, (List.take_append_drop j A').symm, by rw [List.length_take]; omega⟩
  subst hA12
  have h2 : A2.length = i - j := by simp at hA; omega
  rw [List.append_assoc] at W hN hT
  have := swapRange_lists L enc g cb blk off cap N d0 w0 wr P' A1 A2 B' S' ((m : Int) - (i : Int)) (m : Int) (j : Int) R hs hN W (h1.trans hB.symm) (by omega) (by omega) (by omega) hsz
  refine this.mono ?_
  rintro e w' ⟨rfl, W'⟩
  refine ⟨rfl, P' ++ B', A2, A1, S', h2, h1, by simp; omega, by simp at hN ⊢; omega, by rw [← hT]; simp, ?_⟩
  simpa using W'
theorem rot_lt (L : Lay P k) (g : Nat) (cb : Array Value) (cap : Nat) (R : RowK enc k w0 blk off d0) (hs : d0.size = N) (hsz : N < 1152921504606846976) (hij : i < j) (h : RotAt enc k w0 blk off m N T i j wr) :
    Calls P 155 #[.slice (some ⟨blk, off, none⟩) N cap, .int .i64 ((m : Int) - (i : Int)), .int .i64 ((m : Int) + (j : Int) - (i : Int)), .int .i64 (i : Int), .func (.func g) #[] cb] wr fun e w' => e = .returned (.tuple #[]) ∧ Aside (RotAt enc k w0 blk off m N T i (j - i) w') := by
  obtain ⟨P', A', B', S', hA, hB, hP, hN, hT, W⟩ := h
  obtain ⟨B1, B2, hB12, h2⟩ : ∃ B1 B2, B' = B1 ++ B2 ∧ B2.length = i := ⟨B'.take (j - i), B'.drop (j - i), (List.take_append_drop _ B').symm, by rw [List.length_drop]; omega⟩
  subst hB12
  have h1 : B1.length = j - i := by simp at hB; omega
  rw [List.append_assoc] at W hN hT
  have := swapRange_lists L enc g cb blk off cap N d0 w0 wr P' A' B1 B2 S' ((m : Int) - (i : Int)) ((m : Int) + (j : Int) - (i : Int)) (i : Int) R hs hN W (hA.trans h2.symm) (by omega) (by omega) (by omega) hsz
  refine this.mono ?_
  rintro e w' ⟨rfl, W'⟩
  refine ⟨rfl, P', B2, B1, A' ++ S', h2, h1, by omega, by simp at hN ⊢; omega, by rw [← hT], ?_⟩
  exact W'
end

set_option maxHeartbeats 4000000 in
set_option maxRecDepth 1000000 in
theorem rotate_aux (L : Lay P k) (enc : α → List Value) (g : Nat) (cb : Array Value) (blk off cap N a m b i0 j0 : Nat) (d0 : Array α) (w0 w : World) (T : List α)
    (R : RowK enc k w0 blk off d0) (hs : d0.size = N) (hm : a + i0 = m) (hb : m + j0 = b) (hbN : b ≤ N) (hA : 0 < i0) (hB : 0 < j0) (S : RotAt enc k w0 blk off m N T i0 j0 w) (hsz : N < 1152921504606846976) :
    Calls P 154 #[.slice (some ⟨blk, off, none⟩) N cap, .int .i64 a, .int .i64 m, .int .i64 b, .func (.func g) #[] cb] w fun e w' => e = .returned (.tuple #[]) ∧ SWK enc k w0 blk off T.toArray w' := by
  have mixed := L.mixed; have t0 := L.t0; have a0 := L.a0; have z0 := L.z0; have v0 := L.v0; have t3 := L.t3; have a3 := L.a3; have z3 := L.z3; have v3 := L.v3; have t4 := L.t4; have a4 := L.a4; have z4 := L.z4; have v4 := L.v4; have t22 := L.t22; have a22 := L.a22; have z22 := L.z22; have v22 := L.v22; have t25 := L.t25; have a25 := L.a25; have z25 := L.z25; have v25 := L.v25
  have FG := L.fRot
  have e48 : ∀ args w, (callFunc 155 args).run P w = .ok (.enter 155 args) w := enters_of L.fSwap (by kernel_rfl) rfl
  have S0 : Aside (RotAt enc k w0 blk off m N T i0 j0 w) := S
  have HM : Hid (a + i0 = m) := hm
  have HB : Hid (m + j0 = b) := hb
  have hma : a ≤ m := by omega
  have hmb : m ≤ b := by omega
  clear S hm hb
  go_enter FG, Tryz.ntmps154
  go_wp2
  go_loopg [10, 11] (i0 + j0) (fun kx s10 s11 wr => ∃ (i j : Nat), s10 = .int .i64 i ∧ s11 = .int .i64 j ∧ 0 < i ∧ 0 < j ∧ i + j ≤ kx ∧ i ≤ m ∧ m + j ≤ N ∧ Aside (RotAt enc k w0 blk off m N T i j wr))
  case atStart => exact ⟨i0, j0, congrArg _ (by have := HM.out; omega), congrArg _ (by have := HB.out; omega), hA, hB, Nat.le_refl _, by have := HM.out; omega, by have := HB.out; omega, S0⟩
  case round =>
    clear S0
    obtain ⟨i, j, rfl, rfl, hi, hj, hkx, him, hmj, S1⟩ := hrel
    by_cases hij : i = j
    · subst hij
      have hc := rot_end L g cb cap R hs hsz S1.out
      go_wp2_with (go_at_fn 155; refine hc.mono ?_; rintro e w2 ⟨rfl, S2⟩)
      go_end0
      exact ⟨rfl, S2.out⟩
    · have hz : ¬ (i : Int) = (j : Int) := by omega
      by_cases hgt : j < i
      · have hzg : (j : Int) < (i : Int) := by omega
        have hc := rot_gt L g cb cap R hs hsz hgt S1.out
        go_wp2_with (go_at_fn 155; refine hc.mono ?_; rintro e w2 ⟨rfl, S2⟩)
        go_roundg (i - j + j)
        case measure => omega
        case rel => exact ⟨i - j, j, congrArg _ (by omega), rfl, by omega, hj, Nat.le_refl _, by omega, hmj, S2⟩
      · have hzg : ¬ (j : Int) < (i : Int) := by omega
        have hlt : i < j := by omega
        have hc := rot_lt L g cb cap R hs hsz hlt S1.out
        go_wp2_with (go_at_fn 155; refine hc.mono ?_; rintro e w2 ⟨rfl, S2⟩)
        go_roundg (i + (j - i))
        case measure => omega
        case rel => exact ⟨i, j - i, rfl, congrArg _ (by omega), hi, by omega, Nat.le_refl _, him, by omega, S2⟩

theorem rotate_lists (L : Lay P k) (enc : α → List Value) (g : Nat) (cb : Array Value) (blk off cap N : Nat) (d0 : Array α) (w0 w : World) (Pp A B S : List α) (az mz bz : Int)
    (R : RowK enc k w0 blk off d0) (hs : d0.size = N) (hN : (Pp ++ (A ++ (B ++ S))).length = N) (W : SWK enc k w0 blk off (Pp ++ (A ++ (B ++ S))).toArray w) (hA : 0 < A.length) (hB : 0 < B.length)
    (ha : az = Pp.length) (hm : mz = (Pp.length + A.length : Nat)) (hb : bz = (Pp.length + A.length + B.length : Nat)) (hsz : N < 1152921504606846976) :
    Calls P 154 #[.slice (some ⟨blk, off, none⟩) N cap, .int .i64 az, .int .i64 mz, .int .i64 bz, .func (.func g) #[] cb] w fun e w' => e = .returned (.tuple #[]) ∧ SWK enc k w0 blk off (Pp ++ (B ++ (A ++ S))).toArray w' := by
  have hl : Pp.length + (A.length + (B.length + S.length)) = N := by simpa using hN
  subst ha hm hb
  exact rotate_aux L enc g cb blk off cap N Pp.length _ _ A.length B.length d0 w0 w _ R hs rfl rfl (by omega) hA hB ⟨Pp, A, B, S, rfl, rfl, rfl, hN, rfl, W⟩ hsz

end Go.Proofs.YtjlbkdghlijoeaaGreat
namespace Go.Proofs.YtjlbkdghlijoeaaGreat
open Go.Shelf Go.RowKit Go.Lib Go.Sort
variable {α : Type} [Inhabited α] {k : Nat} {P : Program}

/-- What is asked of the insertion sort. -/
def InsC (P : Program) (enc : α → List Value) (k : Nat) (w0 : World) (blk off cap N g : Nat) (cb : Array Value) (lt : α → α → Bool) : Prop :=
  ∀ (Pp A S : List α) (w : World) (az bz : Int), (Pp ++ (A ++ S)).length = N → SWK enc k w0 blk off (Pp ++ (A ++ S)).toArray w → az = Pp.length → bz = (Pp.length + A.length : Nat) →
    Calls P 151 #[.slice (some ⟨blk, off, none⟩) N cap, .int .i64 az, .int .i64 bz, .func (.func g) #[] cb] w fun e w' => e = .returned (.tuple #[]) ∧ SWK enc k w0 blk off (Pp ++ (stab lt A ++ S)).toArray w'
/-- What is asked of the merge in place. -/
def SymC (P : Program) (enc : α → List Value) (k : Nat) (w0 : World) (blk off cap N g : Nat) (cb : Array Value) (lt : α → α → Bool) : Prop :=
  ∀ (Pp A B S : List α) (w : World) (az mz bz : Int), 0 < A.length → 0 < B.length → InOrder lt A → InOrder lt B → (Pp ++ (A ++ (B ++ S))).length = N → SWK enc k w0 blk off (Pp ++ (A ++ (B ++ S))).toArray w →
    az = Pp.length → mz = (Pp.length + A.length : Nat) → bz = (Pp.length + A.length + B.length : Nat) →
    Calls P 152 #[.slice (some ⟨blk, off, none⟩) N cap, .int .i64 az, .int .i64 mz, .int .i64 bz, .func (.func g) #[] cb] w fun e w' => e = .returned (.tuple #[]) ∧ SWK enc k w0 blk off (Pp ++ (mg lt A B ++ S)).toArray w'

section
variable {enc : α → List Value} {w0 wr : World} {blk off cap N g a b bs q : Nat} {cb : Array Value} {lt : α → α → Bool} {l : List α}

theorem ins_step (H : InsC P enc k w0 blk off cap N g cb lt) (hl : l.length = N) (h0 : 0 < bs) (ha : a = q * bs) (hb : b = a + bs) (hbN : b ≤ N) (W : SWK enc k w0 blk off (blocks lt bs (l.take a) ++ l.drop a).toArray wr) :
    Calls P 151 #[.slice (some ⟨blk, off, none⟩) N cap, .int .i64 a, .int .i64 b, .func (.func g) #[] cb] wr fun e w' => e = .returned (.tuple #[]) ∧ Aside (SWK enc k w0 blk off (blocks lt bs (l.take b) ++ l.drop b).toArray w') := by
  have h1 : (blocks lt bs (l.take a)).length = a := by rw [blocks_length, List.length_take]; omega
  have h2 : ((l.drop a).take bs).length = bs := by rw [List.length_take, List.length_drop]; omega
  have e1 : l.drop a = (l.drop a).take bs ++ l.drop b := by rw [hb, ← List.drop_drop, List.take_append_drop]
  have e2 : l.take b = l.take a ++ (l.drop a).take bs := by rw [hb, List.take_add]
  rw [e1] at W
  have := H _ _ _ wr a b (by rw [List.length_append, List.length_append, h1, h2, List.length_drop]; omega) W (by rw [h1]) (by rw [h1, h2]; omega)
  rw [e2, blocks_append h0 q _ _ (by rw [List.length_take]; omega), blocks_short (by omega : ((l.drop a).take bs).length ≤ bs), List.append_assoc]
  exact this
theorem ins_last (H : InsC P enc k w0 blk off cap N g cb lt) (hl : l.length = N) (h0 : 0 < bs) (ha : a = q * bs) (haN : a ≤ N) (hb : N < a + bs) (W : SWK enc k w0 blk off (blocks lt bs (l.take a) ++ l.drop a).toArray wr) :
    Calls P 151 #[.slice (some ⟨blk, off, none⟩) N cap, .int .i64 a, .int .i64 N, .func (.func g) #[] cb] wr fun e w' => e = .returned (.tuple #[]) ∧ Aside (SWK enc k w0 blk off (blocks lt bs l).toArray w') := by
  have h1 : (blocks lt bs (l.take a)).length = a := by rw [blocks_length, List.length_take]; omega
  have h2 : (l.drop a).length = N - a := by rw [List.length_drop]; omega
  have e2 : blocks lt bs l = blocks lt bs (l.take a) ++ stab lt (l.drop a) := by
    have := blocks_append (lt := lt) h0 q (l.take a) (l.drop a) (by rw [List.length_take]; omega)
    rwa [List.take_append_drop, blocks_short (by omega : (l.drop a).length ≤ bs)] at this
  have := H (blocks lt bs (l.take a)) (l.drop a) [] wr a N (by rw [List.length_append, List.length_append, h1, h2]; simp; omega) (by rw [List.append_nil]; exact W) (by rw [h1]) (by rw [h1, h2]; omega)
  rw [List.append_nil, ← e2] at this
  exact this
theorem sym_step (H : SymC P enc k w0 blk off cap N g cb lt) (O : Ord lt) (hl : l.length = N) (h0 : 0 < bs) (ha : a = q * (2 * bs)) (hb : b = a + 2 * bs) (hbN : b ≤ N) (W : SWK enc k w0 blk off (blocks lt (2 * bs) (l.take a) ++ blocks lt bs (l.drop a)).toArray wr) :
    Calls P 152 #[.slice (some ⟨blk, off, none⟩) N cap, .int .i64 a, .int .i64 ((a : Int) + (bs : Int)), .int .i64 b, .func (.func g) #[] cb] wr fun e w' => e = .returned (.tuple #[]) ∧ Aside (SWK enc k w0 blk off (blocks lt (2 * bs) (l.take b) ++ blocks lt bs (l.drop b)).toArray w') := by
  have h1 : (blocks lt (2 * bs) (l.take a)).length = a := by rw [blocks_length, List.length_take]; omega
  obtain ⟨X, Y, hXY, hX, hY⟩ : ∃ X Y, l.drop a = X ++ (Y ++ l.drop b) ∧ X.length = bs ∧ Y.length = bs := by
    refine ⟨(l.drop a).take bs, ((l.drop a).drop bs).take bs, ?_, ?_, ?_⟩
    · rw [show l.drop b = ((l.drop a).drop bs).drop bs by rw [List.drop_drop, List.drop_drop, hb]; congr 1; omega, List.take_append_drop, List.take_append_drop]
    · rw [List.length_take, List.length_drop]; omega
    · rw [List.length_take, List.length_drop, List.length_drop]; omega
  have e2 : l.take b = l.take a ++ (X ++ Y) := by
    rw [hb, List.take_add, hXY, ← List.append_assoc, List.take_left' (by rw [List.length_append]; omega)]
  have e3 : blocks lt bs (l.drop a) = stab lt X ++ (stab lt Y ++ blocks lt bs (l.drop b)) := by
    rw [hXY, blocks_cons hX h0, blocks_cons hY h0]
  rw [e3] at W
  have := H (blocks lt (2 * bs) (l.take a)) (stab lt X) (stab lt Y) (blocks lt bs (l.drop b)) wr a ((a : Int) + (bs : Int)) b (by rw [stab_length]; omega) (by rw [stab_length]; omega) (stab_inOrder O _) (stab_inOrder O _)
    (by simp only [List.length_append, h1, stab_length, hX, hY, blocks_length, List.length_drop]; omega) W (by rw [h1]) (by rw [h1, stab_length]; omega) (by rw [h1, stab_length, stab_length]; omega)
  rw [← stab_append O] at this
  rw [e2, blocks_append (by omega) q _ _ (by rw [List.length_take]; omega), blocks_short (by rw [List.length_append]; omega : (X ++ Y).length ≤ 2 * bs), List.append_assoc]
  exact this
theorem sym_last (H : SymC P enc k w0 blk off cap N g cb lt) (O : Ord lt) (hl : l.length = N) (h0 : 0 < bs) (ha : a = q * (2 * bs)) (hb : N < a + 2 * bs) (hm : a + bs < N) (W : SWK enc k w0 blk off (blocks lt (2 * bs) (l.take a) ++ blocks lt bs (l.drop a)).toArray wr) :
    Calls P 152 #[.slice (some ⟨blk, off, none⟩) N cap, .int .i64 a, .int .i64 ((a : Int) + (bs : Int)), .int .i64 N, .func (.func g) #[] cb] wr fun e w' => e = .returned (.tuple #[]) ∧ Aside (SWK enc k w0 blk off (blocks lt (2 * bs) l).toArray w') := by
  have h1 : (blocks lt (2 * bs) (l.take a)).length = a := by rw [blocks_length, List.length_take]; omega
  obtain ⟨X, Y, hXY, hX, hY⟩ : ∃ X Y, l.drop a = X ++ Y ∧ X.length = bs ∧ Y.length = N - a - bs :=
    ⟨(l.drop a).take bs, (l.drop a).drop bs, (List.take_append_drop _ _).symm, by rw [List.length_take, List.length_drop]; omega, by rw [List.length_drop, List.length_drop]; omega⟩
  have e3 : blocks lt bs (l.drop a) = stab lt X ++ (stab lt Y ++ []) := by
    rw [hXY, blocks_cons hX h0, blocks_short (by omega : Y.length ≤ bs), List.append_nil]
  have e2 : blocks lt (2 * bs) l = blocks lt (2 * bs) (l.take a) ++ stab lt (X ++ Y) := by
    have := blocks_append (lt := lt) (by omega : 0 < 2 * bs) q (l.take a) (l.drop a) (by rw [List.length_take]; omega)
    rw [List.take_append_drop] at this
    rw [this, hXY, blocks_short (by rw [List.length_append]; omega : (X ++ Y).length ≤ 2 * bs)]
  rw [e3] at W
  have := H (blocks lt (2 * bs) (l.take a)) (stab lt X) (stab lt Y) [] wr a ((a : Int) + (bs : Int)) N (by rw [stab_length]; omega) (by rw [stab_length]; omega) (stab_inOrder O _) (stab_inOrder O _)
    (by simp only [List.length_append, h1, stab_length, hX, hY, List.length_nil]; omega) W (by rw [h1]) (by rw [h1, stab_length]; omega) (by rw [h1, stab_length, stab_length]; omega)
  rw [← stab_append O, List.append_nil, ← e2] at this
  exact this
omit [Inhabited α] in
theorem sym_none (hl : l.length = N) (h0 : 0 < bs) (ha : a = q * (2 * bs)) (haN : a ≤ N) (hm : ¬ a + bs < N) : blocks lt (2 * bs) (l.take a) ++ blocks lt bs (l.drop a) = blocks lt (2 * bs) l := by
  have h2 : (l.drop a).length = N - a := by rw [List.length_drop]; omega
  have := blocks_append (lt := lt) (by omega : 0 < 2 * bs) q (l.take a) (l.drop a) (by rw [List.length_take]; omega)
  rw [List.take_append_drop] at this
  rw [this, blocks_short (by omega : (l.drop a).length ≤ bs), blocks_short (by omega : (l.drop a).length ≤ 2 * bs)]
end

set_option maxHeartbeats 8000000 in
set_option maxRecDepth 1000000 in
theorem stable_lists (L : Lay P k) (enc : α → List Value) (lt : α → α → Bool) (O : Ord lt) (g : Nat) (cb : Array Value) (blk off cap N : Nat) (w0 w : World) (l : List α) (hl : l.length = N) (hsz : N < 1152921504606846976)
    (eI : ∀ args w, (callFunc 151 args).run P w = .ok (.enter 151 args) w) (HI : InsC P enc k w0 blk off cap N g cb lt) (HS : SymC P enc k w0 blk off cap N g cb lt) (W : SWK enc k w0 blk off l.toArray w) :
    Calls P 149 #[.slice (some ⟨blk, off, none⟩) N cap, .int .i64 N, .func (.func g) #[] cb] w fun e w' => e = .returned (.tuple #[]) ∧ SWK enc k w0 blk off (stab lt l).toArray w' := by
  have mixed := L.mixed; have t0 := L.t0; have a0 := L.a0; have z0 := L.z0; have v0 := L.v0; have t3 := L.t3; have a3 := L.a3; have z3 := L.z3; have v3 := L.v3; have t4 := L.t4; have a4 := L.a4; have z4 := L.z4; have v4 := L.v4; have t22 := L.t22; have a22 := L.a22; have z22 := L.z22; have v22 := L.v22; have t25 := L.t25; have a25 := L.a25; have z25 := L.z25; have v25 := L.v25
  have FG := L.fStable
  have e46 : ∀ args w, (callFunc 152 args).run P w = .ok (.enter 152 args) w := enters_of L.fSym (by kernel_rfl) rfl
  have KI : Aside (InsC P enc k w0 blk off cap N g cb lt) := HI
  have KS : Aside (SymC P enc k w0 blk off cap N g cb lt) := HS
  have KL : Hid (l.length = N) := hl
  have S0 : Aside (SWK enc k w0 blk off (blocks lt 20 (l.take 0) ++ l.drop 0).toArray w) := by
    have : blocks lt 20 (l.take 0) ++ l.drop 0 = l := by rw [List.take_zero, blocks_short (by simp), stab_nil]; rfl
    rw [this]
    exact W
  clear HI HS W hl
  go_enter FG, Tryz.ntmps149
  go_wp2
  go_loopg [7, 8] (N + 20) (fun kx s7 s8 wr => ∃ (a b q : Nat), s7 = .int .i64 a ∧ s8 = .int .i64 b ∧ Hid (b = a + 20) ∧ Hid (a = q * 20) ∧ a ≤ N ∧ b ≤ N + 20 ∧ N + 20 - a ≤ kx ∧ Aside (SWK enc k w0 blk off (blocks lt 20 (l.take a) ++ l.drop a).toArray wr))
  case atStart => exact ⟨0, 20, 0, rfl, rfl, rfl, rfl, by omega, by omega, by omega, S0⟩
  case round =>
    clear S0
    obtain ⟨a, b, q, rfl, rfl, HB, HA, haN, hbN, hkx, S1⟩ := hrel
    by_cases hle : b ≤ N
    · have hz : (b : Int) ≤ (N : Int) := by omega
      have hc := ins_step KI.out KL.out (by omega) HA.out HB.out hle S1.out
      go_wp2_with (go_at_fn 151; refine hc.mono ?_; rintro e w2 ⟨rfl, S2⟩)
      go_roundg (N + 20 - b)
      case measure => have := HB.out; omega
      case rel => exact ⟨b, b + 20, q + 1, rfl, by simp, rfl, by show b = (q + 1) * 20; have := HA.out; have := HB.out; omega, hle, by omega, Nat.le_refl _, S2⟩
    · have hz : ¬ (b : Int) ≤ (N : Int) := by omega
      have hc := ins_last KI.out KL.out (by omega) HA.out haN (by have := HB.out; omega) S1.out
      go_wp2_with (go_at_fn 151; refine hc.mono ?_; rintro e w2 ⟨rfl, S2⟩)
      clear hc S1 hkx HA HB
      go_loopg [6] N (fun kx s6 wr => ∃ (bs : Nat), s6 = .int .i64 bs ∧ 0 < bs ∧ bs < 2 * N + 21 ∧ N - bs ≤ kx ∧ Aside (SWK enc k w0 blk off (blocks lt bs l).toArray wr))
      case atStart => exact ⟨20, rfl, by omega, by omega, by omega, S2⟩
      case round =>
        clear S2
        obtain ⟨bs, rfl, hb0, hb1, hkx, S1⟩ := hrel
        by_cases hlt : bs < N
        · have hz2 : (bs : Int) < (N : Int) := by omega
          have S3 : Aside (SWK enc k w0 blk off (blocks lt (2 * bs) (l.take 0) ++ blocks lt bs (l.drop 0)).toArray wr) := by
            have : blocks lt (2 * bs) (l.take 0) ++ blocks lt bs (l.drop 0) = blocks lt bs l := by rw [List.take_zero, blocks_short (by simp), stab_nil]; rfl
            rw [this]
            exact S1.out
          clear S1
          go_wp2
          go_loopg [7, 8] (N + 2 * bs) (fun ky s7 s8 wr => ∃ (a b q : Nat), s7 = .int .i64 a ∧ s8 = .int .i64 b ∧ Hid (b = a + 2 * bs) ∧ Hid (a = q * (2 * bs)) ∧ a ≤ N ∧ b ≤ N + 2 * bs ∧ N + 2 * bs - a ≤ ky ∧ Aside (SWK enc k w0 blk off (blocks lt (2 * bs) (l.take a) ++ blocks lt bs (l.drop a)).toArray wr))
          case atStart => exact ⟨0, 2 * bs, 0, rfl, congrArg _ (by omega), by show 2 * bs = 0 + 2 * bs; omega, by show 0 = 0 * (2 * bs); omega, by omega, by omega, by omega, S3⟩
          case round =>
            clear S3
            obtain ⟨a', b', q', rfl, rfl, HB, HA, haN', hbN', hky, S1⟩ := hrel
            by_cases hle' : b' ≤ N
            · have hz3 : (b' : Int) ≤ (N : Int) := by omega
              have hc := sym_step KS.out O KL.out hb0 HA.out HB.out hle' S1.out
              go_wp2_with (go_at_fn 152; refine hc.mono ?_; rintro e w3 ⟨rfl, S2⟩)
              go_roundg (N + 2 * bs - b')
              case measure => have := HB.out; omega
              case rel => exact ⟨b', b' + 2 * bs, q' + 1, rfl, congrArg _ (by omega), rfl, by show b' = (q' + 1) * (2 * bs); rw [Nat.add_mul]; have := HA.out; have := HB.out; omega, hle', by omega, Nat.le_refl _, S2⟩
            · have hz3 : ¬ (b' : Int) ≤ (N : Int) := by omega
              by_cases hm : a' + bs < N
              · have hz4 : (a' : Int) + (bs : Int) < (N : Int) := by omega
                have hc := sym_last KS.out O KL.out hb0 HA.out (by have := HB.out; omega) hm S1.out
                go_wp2_with (go_at_fn 152; refine hc.mono ?_; rintro e w3 ⟨rfl, S2⟩)
                go_roundg (N - 2 * bs)
                case measure => omega
                case rel => exact ⟨2 * bs, congrArg _ (by omega), by omega, by omega, Nat.le_refl _, S2⟩
              · have hz4 : ¬ (a' : Int) + (bs : Int) < (N : Int) := by omega
                have S2 : Aside (SWK enc k w0 blk off (blocks lt (2 * bs) l).toArray wr) := by
                  rw [← sym_none KL.out hb0 HA.out haN' hm]
                  exact S1.out
                clear S1
                go_wp2
                go_roundg (N - 2 * bs)
                case measure => omega
                case rel => exact ⟨2 * bs, congrArg _ (by omega), by omega, by omega, Nat.le_refl _, S2⟩
        · have hz2 : ¬ (bs : Int) < (N : Int) := by omega
          go_wp2
          go_end0
          refine ⟨rfl, ?_⟩
          have := S1.out
          rw [blocks_short (by rw [KL.out]; omega)] at this
          exact this

end Go.Proofs.YtjlbkdghlijoeaaGreat
