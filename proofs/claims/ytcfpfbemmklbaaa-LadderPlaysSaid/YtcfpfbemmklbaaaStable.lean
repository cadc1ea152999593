
/-
  The library's stable sort over lists: the row comes to the stable order of what it held.
-/
import Derived.Test.YtcfpfbemmklbaaaSwap
namespace Go.Proofs.Ytcfpfbemmklbaaa
open Go.Shelf Go.RowKit Go.Lib Go.Sort
variable {α : Type} [Inhabited α] {k : Nat} {P : Program}

/-- What is asked of the insertion sort. -/
def InsC (P : Program) (enc : α → List Value) (k : Nat) (w0 : World) (blk off cap N g : Nat) (cb : Array Value) (lt : α → α → Bool) : Prop :=
  ∀ (Pp A S : List α) (w : World) (az bz : Int), (Pp ++ (A ++ S)).length = N → SWK enc k w0 blk off (Pp ++ (A ++ S)).toArray w → az = Pp.length → bz = (Pp.length + A.length : Nat) →
    Calls P 62 #[.slice (some ⟨blk, off, none⟩) N cap, .int .i64 az, .int .i64 bz, .func (.func g) #[] cb] w fun e w' => e = .returned (.tuple #[]) ∧ SWK enc k w0 blk off (Pp ++ (stab lt A ++ S)).toArray w'
/-- What is asked of the merge in place. -/
def SymC (P : Program) (enc : α → List Value) (k : Nat) (w0 : World) (blk off cap N g : Nat) (cb : Array Value) (lt : α → α → Bool) : Prop :=
  ∀ (Pp A B S : List α) (w : World) (az mz bz : Int), 0 < A.length → 0 < B.length → InOrder lt A → InOrder lt B → (Pp ++ (A ++ (B ++ S))).length = N → SWK enc k w0 blk off (Pp ++ (A ++ (B ++ S))).toArray w →
    az = Pp.length → mz = (Pp.length + A.length : Nat) → bz = (Pp.length + A.length + B.length : Nat) →
    Calls P 63 #[.slice (some ⟨blk, off, none⟩) N cap, .int .i64 az, .int .i64 mz, .int .i64 bz, .func (.func g) #[] cb] w fun e w' => e = .returned (.tuple #[]) ∧ SWK enc k w0 blk off (Pp ++ (mg lt A B ++ S)).toArray w'

section
variable {enc : α → List Value} {w0 wr : World} {blk off cap N g a b bs q : Nat} {cb : Array Value} {lt : α → α → Bool} {l : List α}

theorem ins_step (H : InsC P enc k w0 blk off cap N g cb lt) (hl : l.length = N) (h0 : 0 < bs) (ha : a = q * bs) (hb : b = a + bs) (hbN : b ≤ N) (W : SWK enc k w0 blk off (blocks lt bs (l.take a) ++ l.drop a).toArray wr) :
    Calls P 62 #[.slice (some ⟨blk, off, none⟩) N cap, .int .i64 a, .int .i64 b, .func (.func g) #[] cb] wr fun e w' => e = .returned (.tuple #[]) ∧ Aside (SWK enc k w0 blk off (blocks lt bs (l.take b) ++ l.drop b).toArray w') := by
  have h1 : (blocks lt bs (l.take a)).length = a := by rw [blocks_length, List.length_take]; omega
  have h2 : ((l.drop a).take bs).length = bs := by rw [List.length_take, List.length_drop]; omega
  have e1 : l.drop a = (l.drop a).take bs ++ l.drop b := by rw [hb, ← List.drop_drop, List.take_append_drop]
  have e2 : l.take b = l.take a ++ (l.drop a).take bs := by rw [hb, List.take_add]
  rw [e1] at W
  have := H _ _ _ wr a b (by rw [List.length_append, List.length_append, h1, h2, List.length_drop]; omega) W (by rw [h1]) (by rw [h1, h2]; omega)
  rw [e2, blocks_append h0 q _ _ (by rw [List.length_take]; omega), blocks_short (by omega : ((l.drop a).take bs).length ≤ bs), List.append_assoc]
  exact this
theorem ins_last (H : InsC P enc k w0 blk off cap N g cb lt) (hl : l.length = N) (h0 : 0 < bs) (ha : a = q * bs) (haN : a ≤ N) (hb : N < a + bs) (W : SWK enc k w0 blk off (blocks lt bs (l.take a) ++ l.drop a).toArray wr) :
    Calls P 62 #[.slice (some ⟨blk, off, none⟩) N cap, .int .i64 a, .int .i64 N, .func (.func g) #[] cb] wr fun e w' => e = .returned (.tuple #[]) ∧ Aside (SWK enc k w0 blk off (blocks lt bs l).toArray w') := by
  have h1 : (blocks lt bs (l.take a)).length = a := by rw [blocks_length, List.length_take]; omega
  have h2 : (l.drop a).length = N - a := by rw [List.length_drop]; omega
  have e2 : blocks lt bs l = blocks lt bs (l.take a) ++ stab lt (l.drop a) := by
    have := blocks_append (lt := lt) h0 q (l.take a) (l.drop a) (by rw [List.length_take]; omega)
    rwa [List.take_append_drop, blocks_short (by omega : (l.drop a).length ≤ bs)] at this
  have := H (blocks lt bs (l.take a)) (l.drop a) [] wr a N (by rw [List.length_append, List.length_append, h1, h2]; simp; omega) (by rw [List.append_nil]; exact W) (by rw [h1]) (by rw [h1, h2]; omega)
  rw [List.append_nil, ← e2] at this
  exact this
theorem sym_step (H : SymC P enc k w0 blk off cap N g cb lt) (O : Ord lt) (hl : l.length = N) (h0 : 0 < bs) (ha : a = q * (2 * bs)) (hb : b = a + 2 * bs) (hbN : b ≤ N) (W : SWK enc k w0 blk off (blocks lt (2 * bs) (l.take a) ++ blocks lt bs (l.drop a)).toArray wr) :
    Calls P 63 #[.slice (some ⟨blk, off, none⟩) N cap, .int .i64 a, .int .i64 ((a : Int) + (bs : Int)), .int .i64 b, .func (.func g) #[] cb] wr fun e w' => e = .returned (.tuple #[]) ∧ Aside (SWK enc k w0 blk off (blocks lt (2 * bs) (l.take b) ++ blocks lt bs (l.drop b)).toArray w') := by
  have h1 : (blocks lt (2 * bs) (l.take a)).length = a := by rw [blocks_length, List.length_take]; omega
  obtain ⟨X, Y, hXY, hX, hY⟩ : ∃ X Y, l.drop a = X ++ (Y ++ l.drop b) ∧ X.length = bs ∧ Y.length = bs := by
    refine ⟨(l.drop a).take bs, ((l.drop a).drop bs).take bs, ?_, ?_, ?_⟩
    · rw [show l.drop b = ((l.drop a).drop bs).drop bs by rw [List.drop_drop, List.drop_drop, hb]; congr 1; omega, List.take_append_drop, List.take_append_drop]
    · rw [List.length_take, List.length_drop]; omega
    · rw [List.length_take, List.length_drop, List.length_drop]; omega
  have e2 : l.take b = l.take a ++ (X ++ Y) := by
    rw [hb, List.take_add, hXY, ← List.append_assoc, List.take_left' (by rw [List.length_append]; omega)]
  have e3 : blocks lt bs (l.drop a) = stab lt X ++ (stab lt Y ++ blocks lt bs (l.drop b)) := by
    rw [hXY, blocks_cons hX h0, blocks_cons hY h0]
  rw [e3] at W
  have := H (blocks lt (2 * bs) (l.take a)) (stab lt X) (stab lt Y) (blocks lt bs (l.drop b)) wr a ((a : Int) + (bs : Int)) b (by rw [stab_length]; omega) (by rw [stab_length]; omega) (stab_inOrder O _) (stab_inOrder O _)
    (by simp only [List.length_append, h1, stab_length, hX, hY, blocks_length, List.length_drop]; omega) W (by rw [h1]) (by rw [h1, stab_length]; omega) (by rw [h1, stab_length, stab_length]; omega)
  rw [← stab_append O] at this
  rw [e2, blocks_append (by omega) q _ _ (by rw [List.length_take]; omega), blocks_short (by rw [List.length_append]; omega : (X ++ Y).length ≤ 2 * bs), List.append_assoc]
  exact this
theorem sym_last (H : SymC P enc k w0 blk off cap N g cb lt) (O : Ord lt) (hl : l.length = N) (h0 : 0 < bs) (ha : a = q * (2 * bs)) (hb : N < a + 2 * bs) (hm : a + bs < N) (W : SWK enc k w0 blk off (blocks lt (2 * bs) (l.take a) ++ blocks lt bs (l.drop a)).toArray wr) :
    Calls P 63 #[.slice (some ⟨blk, off, none⟩) N cap, .int .i64 a, .int .i64 ((a : Int) + (bs : Int)), .int .i64 N, .func (.func g) #[] cb] wr fun e w' => e = .returned (.tuple #[]) ∧ Aside (SWK enc k w0 blk off (blocks lt (2 * bs) l).toArray w') := by
  have h1 : (blocks lt (2 * bs) (l.take a)).length = a := by rw [blocks_length, List.length_take]; omega
  obtain ⟨X, Y, hXY, hX, hY⟩ : ∃ X Y, l.drop a = X ++ Y ∧ X.length = bs ∧ Y.length = N - a - bs :=
    ⟨(l.drop a).take bs, (l.drop a).drop bs, (List.take_append_drop _ _).symm, by rw [List.length_take, List.length_drop]; omega, by rw [List.length_drop, List.length_drop]; omega⟩
  have e3 : blocks lt bs (l.drop a) = stab lt X ++ (stab lt Y ++ []) := by
    rw [hXY, blocks_cons hX h0, blocks_short (by omega : Y.length ≤ bs), List.append_nil]
  have e2 : blocks lt (2 * bs) l = blocks lt (2 * bs) (l.take a) ++ stab lt (X ++ Y) := by
    have := blocks_append (lt := lt) (by omega : 0 < 2 * bs) q (l.take a) (l.drop a) (by rw [List.length_take]; omega)
    rw [List.take_append_drop] at this
    rw [this, hXY, blocks_short (by rw [List.length_append]; omega : (X ++ Y).length ≤ 2 * bs)]
  rw [e3] at W
  have := H (blocks lt (2 * bs) (l.take a)) (stab lt X) (stab lt Y) [] wr a ((a : Int) + (bs : Int)) N (by rw [stab_length]; omega) (by rw [stab_length]; omega) (stab_inOrder O _) (stab_inOrder O _)
    (by simp only [List.length_append, h1, stab_length, hX, hY, List.length_nil]; omega) W (by rw [h1]) (by rw [h1, stab_length]; omega) (by rw [h1, stab_length, stab_length]; omega)
  rw [← stab_append O, List.append_nil, ← e2] at this
  exact this
omit [Inhabited α] in
theorem sym_none (hl : l.length = N) (h0 : 0 < bs) (ha : a = q * (2 * bs)) (haN : a ≤ N) (hm : ¬ a + bs < N) : blocks lt (2 * bs) (l.take a) ++ blocks lt bs (l.drop a) = blocks lt (2 * bs) l := by
  have h2 : (l.drop a).length = N - a := by rw [List.length_drop]; omega
  have := blocks_append (lt := lt) (by omega : 0 < 2 * bs) q (l.take a) (l.drop a) (by rw [List.length_take]; omega)
  rw [List.take_append_drop] at this
  rw [this, blocks_short (by omega : (l.drop a).length ≤ bs), blocks_short (by omega : (l.drop a).length ≤ 2 * bs)]
end

set_option maxHeartbeats 8000000 in
set_option maxRecDepth 1000000 in
theorem stable_lists (L : Lay P k) (enc : α → List Value) (lt : α → α → Bool) (O : Ord lt) (g : Nat) (cb : Array Value) (blk off cap N : Nat) (w0 w : World) (l : List α) (hl : l.length = N) (hsz : N < 1152921504606846976)
    (eI : ∀ args w, (callFunc 62 args).run P w = .ok (.enter 62 args) w) (HI : InsC P enc k w0 blk off cap N g cb lt) (HS : SymC P enc k w0 blk off cap N g cb lt) (W : SWK enc k w0 blk off l.toArray w) :
    Calls P 54 #[.slice (some ⟨blk, off, none⟩) N cap, .int .i64 N, .func (.func g) #[] cb] w fun e w' => e = .returned (.tuple #[]) ∧ SWK enc k w0 blk off (stab lt l).toArray w' := by
  have mixed := L.mixed; have t0 := L.t0; have a0 := L.a0; have z0 := L.z0; have v0 := L.v0; have t3 := L.t3; have a3 := L.a3; have z3 := L.z3; have v3 := L.v3; have t4 := L.t4; have a4 := L.a4; have z4 := L.z4; have v4 := L.v4; have t22 := L.t22; have a22 := L.a22; have z22 := L.z22; have v22 := L.v22; have t25 := L.t25; have a25 := L.a25; have z25 := L.z25; have v25 := L.v25
  have FG := L.fStable
  have e46 : ∀ args w, (callFunc 63 args).run P w = .ok (.enter 63 args) w := enters_of L.fSym (by kernel_rfl) rfl
  have KI : Aside (InsC P enc k w0 blk off cap N g cb lt) := HI
  have KS : Aside (SymC P enc k w0 blk off cap N g cb lt) := HS
  have KL : Hid (l.length = N) := hl
  have S0 : Aside (SWK enc k w0 blk off (blocks lt 20 (l.take 0) ++ l.drop 0).toArray w) := by
    have : blocks lt 20 (l.take 0) ++ l.drop 0 = l := by rw [List.take_zero, blocks_short (by simp), stab_nil]; rfl
    rw [this]
    exact W
  clear HI HS W hl
  go_enter FG, Try.ntmps54
  go_wp2
  go_loopg [7, 8] (N + 20) (fun kx s7 s8 wr => ∃ (a b q : Nat), s7 = .int .i64 a ∧ s8 = .int .i64 b ∧ Hid (b = a + 20) ∧ Hid (a = q * 20) ∧ a ≤ N ∧ b ≤ N + 20 ∧ N + 20 - a ≤ kx ∧ Aside (SWK enc k w0 blk off (blocks lt 20 (l.take a) ++ l.drop a).toArray wr))
  case atStart => exact ⟨0, 20, 0, rfl, rfl, rfl, rfl, by omega, by omega, by omega, S0⟩
  case round =>
    clear S0
    obtain ⟨a, b, q, rfl, rfl, HB, HA, haN, hbN, hkx, S1⟩ := hrel
    by_cases hle : b ≤ N
    · have hz : (b : Int) ≤ (N : Int) := by omega
      have hc := ins_step KI.out KL.out (by omega) HA.out HB.out hle S1.out
      go_wp2_with (go_at_fn 62; refine hc.mono ?_; rintro e w2 ⟨rfl, S2⟩)
      go_roundg (N + 20 - b)
      case measure => have := HB.out; omega
      case rel => exact ⟨b, b + 20, q + 1, rfl, by simp, rfl, by show b = (q + 1) * 20; have := HA.out; have := HB.out; omega, hle, by omega, Nat.le_refl _, S2⟩
    · have hz : ¬ (b : Int) ≤ (N : Int) := by omega
      have hc := ins_last KI.out KL.out (by omega) HA.out haN (by have := HB.out; omega) S1.out
      go_wp2_with (go_at_fn 62; refine hc.mono ?_; rintro e w2 ⟨rfl, S2⟩)
      clear hc S1 hkx HA HB
      go_loopg [6] N (fun kx s6 wr => ∃ (bs : Nat), s6 = .int .i64 bs ∧ 0 < bs ∧ bs < 2 * N + 21 ∧ N - bs ≤ kx ∧ Aside (SWK enc k w0 blk off (blocks lt bs l).toArray wr))
      case atStart => exact ⟨20, rfl, by omega, by omega, by omega, S2⟩
      case round =>
        clear S2
        obtain ⟨bs, rfl, hb0, hb1, hkx, S1⟩ := hrel
        by_cases hlt : bs < N
        · have hz2 : (bs : Int) < (N : Int) := by omega
          have S3 : Aside (SWK enc k w0 blk off (blocks lt (2 * bs) (l.take 0) ++ blocks lt bs (l.drop 0)).toArray wr) := by
            have : blocks lt (2 * bs) (l.take 0) ++ blocks lt bs (l.drop 0) = blocks lt bs l := by rw [List.take_zero, blocks_short (by simp), stab_nil]; rfl
            rw [this]
            exact S1.out
          clear S1
          go_wp2
          go_loopg [7, 8] (N + 2 * bs) (fun ky s7 s8 wr => ∃ (a b q : Nat), s7 = .int .i64 a ∧ s8 = .int .i64 b ∧ Hid (b = a + 2 * bs) ∧ Hid (a = q * (2 * bs)) ∧ a ≤ N ∧ b ≤ N + 2 * bs ∧ N + 2 * bs - a ≤ ky ∧ Aside (SWK enc k w0 blk off (blocks lt (2 * bs) (l.take a) ++ blocks lt bs (l.drop a)).toArray wr))
          case atStart => exact ⟨0, 2 * bs, 0, rfl, congrArg _ (by omega), by show 2 * bs = 0 + 2 * bs; omega, by show 0 = 0 * (2 * bs); omega, by omega, by omega, by omega, S3⟩
          case round =>
            clear S3
            obtain ⟨a', b', q', rfl, rfl, HB, HA, haN', hbN', hky, S1⟩ := hrel
            by_cases hle' : b' ≤ N
            · have hz3 : (b' : Int) ≤ (N : Int) := by omega
              have hc := sym_step KS.out O KL.out hb0 HA.out HB.out hle' S1.out
              go_wp2_with (go_at_fn 63; refine hc.mono ?_; rintro e w3 ⟨rfl, S2⟩)
              go_roundg (N + 2 * bs - b')
              case measure => have := HB.out; omega
              case rel => exact ⟨b', b' + 2 * bs, q' + 1, rfl, congrArg _ (by omega), rfl, by show b' = (q' + 1) * (2 * bs); rw [Nat.add_mul]; have := HA.out; have := HB.out; omega, hle', by omega, Nat.le_refl _, S2⟩
            · have hz3 : ¬ (b' : Int) ≤ (N : Int) := by omega
              by_cases hm : a' + bs < N
              · have hz4 : (a' : Int) + (bs : Int) < (N : Int) := by omega
                have hc := sym_last KS.out O KL.out hb0 HA.out (by have := HB.out; omega) hm S1.out
                go_wp2_with (go_at_fn 63; refine hc.mono ?_; rintro e w3 ⟨rfl, S2⟩)
                go_roundg (N - 2 * bs)
                case measure => omega
                case rel => exact ⟨2 * bs, congrArg _ (by omega), by omega, by omega, Nat.le_refl _, S2⟩
              · have hz4 : ¬ (a' : Int) + (bs : Int) < (N : Int) := by omega
                have S2 : Aside (SWK enc k w0 blk off (blocks lt (2 * bs) l).toArray wr) := by
                  rw [← sym_none KL.out hb0 HA.out haN' hm]
                  exact S1.out
                clear S1
                go_wp2
                go_roundg (N - 2 * bs)
                case measure => omega
                case rel => exact ⟨2 * bs, congrArg _ (by omega), by omega, by omega, Nat.le_refl _, S2⟩
        · have hz2 : ¬ (bs : Int) < (N : Int) := by omega
          go_wp2
          go_end0
          refine ⟨rfl, ?_⟩
          have := S1.out
          rw [blocks_short (by rw [KL.out]; omega)] at this
          exact this

end Go.Proofs.Ytcfpfbemmklbaaa
