
/-
  The library's rotation, at elements of k cells, from a world of the sort's to a world of the sort's.
-/
import Derived.Test.YtcfpfbemmklbaaaSwap
namespace Go.Proofs.Ytcfpfbemmklbaaa
open Go.Shelf Go.RowKit Go.Lib Go.Sort
variable {P : Program} {α : Type} [Inhabited α] {k : Nat}

theorem swLoop_lists (Pp X Q Y S : List α) (hXY : X.length = Y.length) : ∀ i, i ≤ X.length →
    swLoop (Pp ++ (X ++ (Q ++ (Y ++ S)))).toArray Pp.length (Pp.length + X.length + Q.length) i = (Pp ++ (Y.take i ++ (X.drop i ++ (Q ++ (X.take i ++ (Y.drop i ++ S)))))).toArray
  | 0, _ => by simp [swLoop]
  | i + 1, h => by
    have hX : i < X.length := by omega
    have hY : i < Y.length := by omega
    rw [swLoop, swLoop_lists Pp X Q Y S hXY i (by omega), List.drop_eq_getElem_cons hX, List.drop_eq_getElem_cons hY]
    have := swp_lists (Pp ++ Y.take i) (X.drop (i + 1) ++ (Q ++ X.take i)) (Y.drop (i + 1) ++ S) X[i] Y[i] (Pp.length + i) (Pp.length + X.length + Q.length + i) (by simp; omega) (by simp; omega)
    rw [List.take_succ_eq_append_getElem hX, List.take_succ_eq_append_getElem hY]
    simp only [List.append_assoc, List.cons_append, List.nil_append] at this ⊢
    exact this
theorem swLoop_whole (Pp X Q Y S : List α) (hXY : X.length = Y.length) (a b n : Nat) (ha : a = Pp.length) (hb : b = Pp.length + X.length + Q.length) (hn : n = X.length) :
    swLoop (Pp ++ (X ++ (Q ++ (Y ++ S)))).toArray a b n = (Pp ++ (Y ++ (Q ++ (X ++ S)))).toArray := by
  subst ha hb hn
  rw [swLoop_lists Pp X Q Y S hXY _ (Nat.le_refl _), List.take_of_length_le (by omega), List.drop_of_length_le (Nat.le_refl _), List.take_of_length_le (Nat.le_refl _), List.drop_of_length_le (by omega)]
  simp

theorem swapRange_lists (L : Lay P k) (enc : α → List Value) (g : Nat) (cb : Array Value) (blk off cap N : Nat) (d0 : Array α) (w0 w : World) (Pp X Q Y S : List α) (az bz nz : Int)
    (R : RowK enc k w0 blk off d0) (hs : d0.size = N) (hN : (Pp ++ (X ++ (Q ++ (Y ++ S)))).length = N) (W : SWK enc k w0 blk off (Pp ++ (X ++ (Q ++ (Y ++ S)))).toArray w) (hXY : X.length = Y.length)
    (ha : az = Pp.length) (hb : bz = (Pp.length + X.length + Q.length : Nat)) (hn : nz = X.length) (hsz : N < 1152921504606846976) :
    Calls P 73 #[.slice (some ⟨blk, off, none⟩) N cap, .int .i64 az, .int .i64 bz, .int .i64 nz, .func (.func g) #[] cb] w fun e w' => e = .returned (.tuple #[]) ∧ SWK enc k w0 blk off (Pp ++ (Y ++ (Q ++ (X ++ S)))).toArray w' := by
  subst ha hb hn
  have hd : (Pp ++ (X ++ (Q ++ (Y ++ S)))).toArray.size = N := by rw [List.size_toArray, hN]
  have hl : Pp.length + (X.length + (Q.length + (Y.length + S.length))) = N := by simpa using hN
  have := swapRange_arr L enc g cb blk off cap Pp.length (Pp.length + X.length + Q.length) X.length d0 _ w0 w R (hs.trans hd.symm) W (by rw [hd]; omega) (by rw [hd]; omega) (by rw [hd]; exact hsz)
  rw [swLoop_whole Pp X Q Y S hXY _ _ _ rfl rfl rfl, hd] at this
  exact this

/-- Where the rotation stands: what is left to be rotated, and that it comes to T. -/
def RotAt (enc : α → List Value) (k : Nat) (w0 : World) (blk off m N : Nat) (T : List α) (i j : Nat) (wr : World) : Prop :=
  ∃ P' A' B' S' : List α, A'.length = i ∧ B'.length = j ∧ P'.length + i = m ∧ (P' ++ (A' ++ (B' ++ S'))).length = N ∧ P' ++ (B' ++ (A' ++ S')) = T ∧ SWK enc k w0 blk off (P' ++ (A' ++ (B' ++ S'))).toArray wr

section
variable {enc : α → List Value} {blk off m N : Nat} {T : List α} {i j : Nat} {wr w0 : World} {d0 : Array α}
theorem rot_end (L : Lay P k) (g : Nat) (cb : Array Value) (cap : Nat) (R : RowK enc k w0 blk off d0) (hs : d0.size = N) (hsz : N < 1152921504606846976) (h : RotAt enc k w0 blk off m N T i i wr) :
    Calls P 73 #[.slice (some ⟨blk, off, none⟩) N cap, .int .i64 ((m : Int) - (i : Int)), .int .i64 (m : Int), .int .i64 (i : Int), .func (.func g) #[] cb] wr fun e w' => e = .returned (.tuple #[]) ∧ Aside (SWK enc k w0 blk off T.toArray w') := by
  obtain ⟨P', A', B', S', hA, hB, hP, hN, hT, W⟩ := h
  have := swapRange_lists L enc g cb blk off cap N d0 w0 wr P' A' [] B' S' ((m : Int) - (i : Int)) (m : Int) (i : Int) R hs hN W (hA.trans hB.symm) (by omega) (by simp; omega) (by omega) hsz
  rw [← hT]
  exact this
theorem rot_gt (L : Lay P k) (g : Nat) (cb : Array Value) (cap : Nat) (R : RowK enc k w0 blk off d0) (hs : d0.size = N) (hsz : N < 1152921504606846976) (hij : j < i) (h : RotAt enc k w0 blk off m N T i j wr) :
    Calls P 73 #[.slice (some ⟨blk, off, none⟩) N cap, .int .i64 ((m : Int) - (i : Int)), .int .i64 (m : Int), .int .i64 (j : Int), .func (.func g) #[] cb] wr fun e w' => e = .returned (.tuple #[]) ∧ Aside (RotAt enc k w0 blk off m N T (i - j) j w') := by
  obtain ⟨P', A', B', S', hA, hB, hP, hN, hT, W⟩ := h
  obtain ⟨A1, A2, hA12, h1⟩ : ∃ A1 A2, A' = A1 ++ A2 ∧ A1.length = j := ⟨A'.take j, A'.drop j, (List.take_append_drop j A').symm, by rw [List.length_take]; omega⟩
  subst hA12
  have h2 : A2.length = i - j := by simp at hA; omega
  rw [List.append_assoc] at W hN hT
  have := swapRange_lists L enc g cb blk off cap N d0 w0 wr P' A1 A2 B' S' ((m : Int) - (i : Int)) (m : Int) (j : Int) R hs hN W (h1.trans hB.symm) (by omega) (by omega) (by omega) hsz
  refine this.mono ?_
  rintro e w' ⟨rfl, W'⟩
  refine ⟨rfl, P' ++ B', A2, A1, S', h2, h1, by simp; omega, by simp at hN ⊢; omega, by rw [← hT]; simp, ?_⟩
  simpa using W'
theorem rot_lt (L : Lay P k) (g : Nat) (cb : Array Value) (cap : Nat) (R : RowK enc k w0 blk off d0) (hs : d0.size = N) (hsz : N < 1152921504606846976) (hij : i < j) (h : RotAt enc k w0 blk off m N T i j wr) :
    Calls P 73 #[.slice (some ⟨blk, off, none⟩) N cap, .int .i64 ((m : Int) - (i : Int)), .int .i64 ((m : Int) + (j : Int) - (i : Int)), .int .i64 (i : Int), .func (.func g) #[] cb] wr fun e w' => e = .returned (.tuple #[]) ∧ Aside (RotAt enc k w0 blk off m N T i (j - i) w') := by
  obtain ⟨P', A', B', S', hA, hB, hP, hN, hT, W⟩ := h
  obtain ⟨B1, B2, hB12, h2⟩ : ∃ B1 B2, B' = B1 ++ B2 ∧ B2.length = i := ⟨B'.take (j - i), B'.drop (j - i), (List.take_append_drop _ B').symm, by rw [List.length_drop]; omega⟩
  subst hB12
  have h1 : B1.length = j - i := by simp at hB; omega
  rw [List.append_assoc] at W hN hT
  have := swapRange_lists L enc g cb blk off cap N d0 w0 wr P' A' B1 B2 S' ((m : Int) - (i : Int)) ((m : Int) + (j : Int) - (i : Int)) (i : Int) R hs hN W (hA.trans h2.symm) (by omega) (by omega) (by omega) hsz
  refine this.mono ?_
  rintro e w' ⟨rfl, W'⟩
  refine ⟨rfl, P', B2, B1, A' ++ S', h2, h1, by omega, by simp at hN ⊢; omega, by rw [← hT], ?_⟩
  exact W'
end

set_option maxHeartbeats 4000000 in
set_option maxRecDepth 1000000 in
theorem rotate_aux (L : Lay P k) (enc : α → List Value) (g : Nat) (cb : Array Value) (blk off cap N a m b i0 j0 : Nat) (d0 : Array α) (w0 w : World) (T : List α)
    (R : RowK enc k w0 blk off d0) (hs : d0.size = N) (hm : a + i0 = m) (hb : m + j0 = b) (hbN : b ≤ N) (hA : 0 < i0) (hB : 0 < j0) (S : RotAt enc k w0 blk off m N T i0 j0 w) (hsz : N < 1152921504606846976) :
    Calls P 71 #[.slice (some ⟨blk, off, none⟩) N cap, .int .i64 a, .int .i64 m, .int .i64 b, .func (.func g) #[] cb] w fun e w' => e = .returned (.tuple #[]) ∧ SWK enc k w0 blk off T.toArray w' := by
  have mixed := L.mixed; have t0 := L.t0; have a0 := L.a0; have z0 := L.z0; have v0 := L.v0; have t3 := L.t3; have a3 := L.a3; have z3 := L.z3; have v3 := L.v3; have t4 := L.t4; have a4 := L.a4; have z4 := L.z4; have v4 := L.v4; have t22 := L.t22; have a22 := L.a22; have z22 := L.z22; have v22 := L.v22; have t25 := L.t25; have a25 := L.a25; have z25 := L.z25; have v25 := L.v25
  have FG := L.fRot
  have e48 : ∀ args w, (callFunc 73 args).run P w = .ok (.enter 73 args) w := enters_of L.fSwap (by kernel_rfl) rfl
  have S0 : Aside (RotAt enc k w0 blk off m N T i0 j0 w) := S
  have HM : Hid (a + i0 = m) := hm
  have HB : Hid (m + j0 = b) := hb
  have hma : a ≤ m := by omega
  have hmb : m ≤ b := by omega
  clear S hm hb
  go_enter FG, Try.ntmps71
  go_wp2
  go_loopg [10, 11] (i0 + j0) (fun kx s10 s11 wr => ∃ (i j : Nat), s10 = .int .i64 i ∧ s11 = .int .i64 j ∧ 0 < i ∧ 0 < j ∧ i + j ≤ kx ∧ i ≤ m ∧ m + j ≤ N ∧ Aside (RotAt enc k w0 blk off m N T i j wr))
  case atStart => exact ⟨i0, j0, congrArg _ (by have := HM.out; omega), congrArg _ (by have := HB.out; omega), hA, hB, Nat.le_refl _, by have := HM.out; omega, by have := HB.out; omega, S0⟩
  case round =>
    clear S0
    obtain ⟨i, j, rfl, rfl, hi, hj, hkx, him, hmj, S1⟩ := hrel
    by_cases hij : i = j
    · subst hij
      have hc := rot_end L g cb cap R hs hsz S1.out
      go_wp2_with (go_at_fn 73; refine hc.mono ?_; rintro e w2 ⟨rfl, S2⟩)
      go_end0
      exact ⟨rfl, S2.out⟩
    · have hz : ¬ (i : Int) = (j : Int) := by omega
      by_cases hgt : j < i
      · have hzg : (j : Int) < (i : Int) := by omega
        have hc := rot_gt L g cb cap R hs hsz hgt S1.out
        go_wp2_with (go_at_fn 73; refine hc.mono ?_; rintro e w2 ⟨rfl, S2⟩)
        go_roundg (i - j + j)
        case measure => omega
        case rel => exact ⟨i - j, j, congrArg _ (by omega), rfl, by omega, hj, Nat.le_refl _, by omega, hmj, S2⟩
      · have hzg : ¬ (j : Int) < (i : Int) := by omega
        have hlt : i < j := by omega
        have hc := rot_lt L g cb cap R hs hsz hlt S1.out
        go_wp2_with (go_at_fn 73; refine hc.mono ?_; rintro e w2 ⟨rfl, S2⟩)
        go_roundg (i + (j - i))
        case measure => omega
        case rel => exact ⟨i, j - i, rfl, congrArg _ (by omega), hi, by omega, Nat.le_refl _, him, by omega, S2⟩

theorem rotate_lists (L : Lay P k) (enc : α → List Value) (g : Nat) (cb : Array Value) (blk off cap N : Nat) (d0 : Array α) (w0 w : World) (Pp A B S : List α) (az mz bz : Int)
    (R : RowK enc k w0 blk off d0) (hs : d0.size = N) (hN : (Pp ++ (A ++ (B ++ S))).length = N) (W : SWK enc k w0 blk off (Pp ++ (A ++ (B ++ S))).toArray w) (hA : 0 < A.length) (hB : 0 < B.length)
    (ha : az = Pp.length) (hm : mz = (Pp.length + A.length : Nat)) (hb : bz = (Pp.length + A.length + B.length : Nat)) (hsz : N < 1152921504606846976) :
    Calls P 71 #[.slice (some ⟨blk, off, none⟩) N cap, .int .i64 az, .int .i64 mz, .int .i64 bz, .func (.func g) #[] cb] w fun e w' => e = .returned (.tuple #[]) ∧ SWK enc k w0 blk off (Pp ++ (B ++ (A ++ S))).toArray w' := by
  have hl : Pp.length + (A.length + (B.length + S.length)) = N := by simpa using hN
  subst ha hm hb
  exact rotate_aux L enc g cb blk off cap N Pp.length _ _ A.length B.length d0 w0 w _ R hs rfl rfl (by omega) hA hB ⟨Pp, A, B, S, rfl, rfl, rfl, hN, rfl, W⟩ hsz

end Go.Proofs.Ytcfpfbemmklbaaa
