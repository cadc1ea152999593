/-
  The contract of the program's read, in one; what Decode answers; the contract of the program's Decode.
-/
import Derived.Test.YtpbmfhbcnllkaaaDoorCodeR
namespace Go.Proofs.YtpbmfhbcnllkaaaDoor
open Go.ChangeShapes Go.WideShapes Go.ChangeAt Go.RowKit Go.Sort
set_option linter.unusedVariables false

theorem bytesOf_beq : ∀ (xs ys : List Int), (∀ x ∈ xs, byteP x) → (∀ y ∈ ys, byteP y) → (Lib.bytesOf xs == Lib.bytesOf ys) = decide (xs = ys)
  | [], [], _, _ => rfl
  | [], y :: ys, _, _ => by simp [Lib.bytesOf]
  | x :: xs, [], _, _ => by simp [Lib.bytesOf]
  | x :: xs, y :: ys, hx, hy => by
    have ih := bytesOf_beq xs ys (fun z hz => hx z (List.mem_cons_of_mem _ hz)) (fun z hz => hy z (List.mem_cons_of_mem _ hz))
    have h1 := hx x (List.mem_cons_self ..)
    have h2 := hy y (List.mem_cons_self ..)
    unfold byteP at h1 h2
    have e : (UInt8.ofNat x.toNat = UInt8.ofNat y.toNat) ↔ x = y := by
      constructor
      · intro h
        have h' := congrArg UInt8.toNat h
        simp only [UInt8.toNat_ofNat'] at h'
        omega
      · rintro rfl; rfl
    rw [Bool.eq_iff_iff] at ih ⊢
    simp only [Lib.bytesOf, List.map_cons, beq_iff_eq, decide_eq_true_eq, List.cons.injEq] at ih ⊢
    rw [e, ih]
theorem enc9_byteP (i : I) : ∀ x ∈ enc9 i, byteP x := enc9_bytes i
/-- Nine bytes lie at a place. -/
def NineAt (w : World) (b off : Nat) (x0 x1 x2 x3 x4 x5 x6 x7 x8 : Int) : Prop :=
  b < w.heap.size ∧ (w.cell? ⟨b, off, none⟩ = some (.int .u8 x0) ∧ w.cell? ⟨b, off + 1, none⟩ = some (.int .u8 x1) ∧ w.cell? ⟨b, off + 2, none⟩ = some (.int .u8 x2) ∧ w.cell? ⟨b, off + 3, none⟩ = some (.int .u8 x3)
    ∧ w.cell? ⟨b, off + 4, none⟩ = some (.int .u8 x4) ∧ w.cell? ⟨b, off + 5, none⟩ = some (.int .u8 x5) ∧ w.cell? ⟨b, off + 6, none⟩ = some (.int .u8 x6) ∧ w.cell? ⟨b, off + 7, none⟩ = some (.int .u8 x7) ∧ w.cell? ⟨b, off + 8, none⟩ = some (.int .u8 x8))
    ∧ (byteP x0 ∧ byteP x1 ∧ byteP x2 ∧ byteP x3 ∧ byteP x4 ∧ byteP x5 ∧ byteP x6 ∧ byteP x7 ∧ byteP x8)
theorem nine_all {x0 x1 x2 x3 x4 x5 x6 x7 x8 : Int} (h : byteP x0 ∧ byteP x1 ∧ byteP x2 ∧ byteP x3 ∧ byteP x4 ∧ byteP x5 ∧ byteP x6 ∧ byteP x7 ∧ byteP x8) : ∀ x ∈ [x0, x1, x2, x3, x4, x5, x6, x7, x8], byteP x := by
  obtain ⟨b0, b1, b2, b3, b4, b5, b6, b7, b8⟩ := h
  intro x hx
  simp only [List.mem_cons, List.not_mem_nil, or_false] at hx
  rcases hx with rfl | rfl | rfl | rfl | rfl | rfl | rfl | rfl | rfl <;> assumption
theorem cread_yes {b off cap : Nat} {x0 x1 x2 x3 x4 x5 x6 x7 x8 n : Int} {w : World} (h : NineAt w b off x0 x1 x2 x3 x4 x5 x6 x7 x8) (hc : 9 ≤ cap) (hm : cap ≤ maxLen) (ht : take9 x0 x1 x2 x3 x4 x5 x6 x7 x8 n = true) :
    Calls Tryd.prog 25 #[.slice (some ⟨b, off, none⟩) 9 cap, .int .i64 n] w fun e w' => e = .returned (.tuple #[(dec9 x0 x1 x2 x3 x4 x5 x6).val, .nilIface]) ∧ Below w.heap.size w w' := by
  obtain ⟨hlt, ⟨c0, c1, c2, c3, c4, c5, c6, c7, c8⟩, hb⟩ := h
  have hall := nine_all hb
  obtain ⟨b0, b1, b2, b3, b4, b5, b6, b7, b8⟩ := hb
  simp only [take9, Bool.and_eq_true] at ht
  obtain ⟨h1, h2⟩ := ht
  rw [← bytesOf_beq _ _ (enc9_byteP _) hall] at h2
  have hf := fun w => flawOf_ok (dec9 x0 x1 x2 x3 x4 x5 x6) n h1 w
  by_cases e : x0 = 10
  · subst e
    have ed : dec9 10 x1 x2 x3 x4 x5 x6 = ⟨10, wordOf x2 x3 x4 x5, 0, x6⟩ := by simp [dec9]
    rw [ed] at hf h2 ⊢
    exact cread_jump_ok b off cap x1 x2 x3 x4 x5 x6 x7 x8 n w hlt c0 c1 c2 c3 c4 c5 c6 b0 b1 b2 b3 b4 b5 b6 c7 c8 b7 b8 hc hm hf h2
  · have ed : dec9 x0 x1 x2 x3 x4 x5 x6 = ⟨x0, x1, wordOf x2 x3 x4 x5, x6⟩ := by simp [dec9, e]
    rw [ed] at hf h2 ⊢
    exact cread_other_ok b off cap x0 x1 x2 x3 x4 x5 x6 x7 x8 n w hlt c0 c1 c2 c3 c4 c5 c6 b0 b1 b2 b3 b4 b5 b6 (by simpa using e) c7 c8 b7 b8 hc hm hf h2
theorem cread_no {b off cap : Nat} {x0 x1 x2 x3 x4 x5 x6 x7 x8 n : Int} {w : World} (h : NineAt w b off x0 x1 x2 x3 x4 x5 x6 x7 x8) (hc : 9 ≤ cap) (hm : cap ≤ maxLen) (ht : take9 x0 x1 x2 x3 x4 x5 x6 x7 x8 n = false) :
    Calls Tryd.prog 25 #[.slice (some ⟨b, off, none⟩) 9 cap, .int .i64 n] w fun e w' => ∃ s, e = .returned (.tuple #[I.val ⟨0, 0, 0, 0⟩, .iface 66 (.agg #[.string s])]) ∧ Below w.heap.size w w' := by
  obtain ⟨hlt, ⟨c0, c1, c2, c3, c4, c5, c6, c7, c8⟩, hb⟩ := h
  have hall := nine_all hb
  obtain ⟨b0, b1, b2, b3, b4, b5, b6, b7, b8⟩ := hb
  unfold take9 at ht
  cases h1 : mayB (dec9 x0 x1 x2 x3 x4 x5 x6) n with
  | false =>
    have hf := fun w => flawOf_bad (dec9 x0 x1 x2 x3 x4 x5 x6) n h1 w
    by_cases e : x0 = 10
    · subst e
      have ed : dec9 10 x1 x2 x3 x4 x5 x6 = ⟨10, wordOf x2 x3 x4 x5, 0, x6⟩ := by simp [dec9]
      rw [ed] at hf
      exact cread_jump_bad b off cap x1 x2 x3 x4 x5 x6 n w hlt c0 c1 c2 c3 c4 c5 c6 b0 b1 b2 b3 b4 b5 b6 hf
    · have ed : dec9 x0 x1 x2 x3 x4 x5 x6 = ⟨x0, x1, wordOf x2 x3 x4 x5, x6⟩ := by simp [dec9, e]
      rw [ed] at hf
      exact cread_other_bad b off cap x0 x1 x2 x3 x4 x5 x6 n w hlt c0 c1 c2 c3 c4 c5 c6 b0 b1 b2 b3 b4 b5 b6 (by simpa using e) hf
  | true =>
    rw [h1, Bool.true_and, ← bytesOf_beq _ _ (enc9_byteP _) hall] at ht
    have hf := fun w => flawOf_ok (dec9 x0 x1 x2 x3 x4 x5 x6) n h1 w
    by_cases e : x0 = 10
    · subst e
      have ed : dec9 10 x1 x2 x3 x4 x5 x6 = ⟨10, wordOf x2 x3 x4 x5, 0, x6⟩ := by simp [dec9]
      rw [ed] at hf ht
      exact cread_jump_odd b off cap x1 x2 x3 x4 x5 x6 x7 x8 n w hlt c0 c1 c2 c3 c4 c5 c6 b0 b1 b2 b3 b4 b5 b6 c7 c8 b7 b8 hc hm hf ht
    · have ed : dec9 x0 x1 x2 x3 x4 x5 x6 = ⟨x0, x1, wordOf x2 x3 x4 x5, x6⟩ := by simp [dec9, e]
      rw [ed] at hf ht
      exact cread_other_odd b off cap x0 x1 x2 x3 x4 x5 x6 x7 x8 n w hlt c0 c1 c2 c3 c4 c5 c6 b0 b1 b2 b3 b4 b5 b6 (by simpa using e) c7 c8 b7 b8 hc hm hf ht

/-! What Decode answers. -/
def at9 (bs : List Int) (k j : Nat) : Int := bs.getD (k * 9 + j) 0
/-- The instruction whose bytes begin at the k-th nine. -/
def decAt (bs : List Int) (k : Nat) : I := dec9 (at9 bs k 0) (at9 bs k 1) (at9 bs k 2) (at9 bs k 3) (at9 bs k 4) (at9 bs k 5) (at9 bs k 6)
def takeAt (bs : List Int) (k : Nat) (n : Int) : Bool := take9 (at9 bs k 0) (at9 bs k 1) (at9 bs k 2) (at9 bs k 3) (at9 bs k 4) (at9 bs k 5) (at9 bs k 6) (at9 bs k 7) (at9 bs k 8) n
def decL (bs : List Int) (k : Nat) : List I := (List.range k).map (decAt bs)
theorem decL_length (bs : List Int) (k : Nat) : (decL bs k).length = k := by simp [decL]
theorem decL_succ (bs : List Int) (k : Nat) : decL bs (k + 1) = decL bs k ++ [decAt bs k] := by simp [decL, List.range_succ]
/-- All up to k are taken. -/
def Taken (bs : List Int) (k : Nat) : Prop := ∀ j, j < k → takeAt bs j (bs.length / 9 : Nat) = true
/-- What Decode answers: instructions, a byte's place, an error. -/
inductive DecP (bs : List Int) : List I → Int → Int → Prop
  | long : 2304 < bs.length → DecP bs [] 0 2
  | short : ¬ 2304 < bs.length → bs.length % 9 ≠ 0 → DecP bs [] ((bs.length - bs.length % 9 : Nat) : Int) 3
  | form (k : Nat) : ¬ 2304 < bs.length → bs.length % 9 = 0 → k < bs.length / 9 → Taken bs k → takeAt bs k (bs.length / 9 : Nat) = false → DecP bs [] ((k * 9 : Nat) : Int) 4
  | ok : ¬ 2304 < bs.length → bs.length % 9 = 0 → Taken bs (bs.length / 9) → DecP bs (decL bs (bs.length / 9)) (bs.length : Nat) 0
/-- It is one answer. -/
theorem DecP.one {bs : List Int} {is is' : List I} {p p' e e' : Int} (h : DecP bs is p e) (h' : DecP bs is' p' e') : is = is' ∧ p = p' ∧ e = e' := by
  cases h with
  | long h1 => cases h' <;> first | exact ⟨rfl, rfl, rfl⟩ | contradiction
  | short h1 h2 => cases h' <;> first | exact ⟨rfl, rfl, rfl⟩ | contradiction
  | ok h1 h2 h3 =>
    cases h' with
    | long => contradiction
    | short => contradiction
    | form k g1 g2 g3 g4 g5 => rw [h3 k g3] at g5; cases g5
    | ok => exact ⟨rfl, rfl, rfl⟩
  | form k h1 h2 h3 h4 h5 =>
    cases h' with
    | long => contradiction
    | short => contradiction
    | ok g1 g2 g3 => rw [g3 k h3] at h5; cases h5
    | form k' g1 g2 g3 g4 g5 =>
      have : k = k' := by
        rcases Nat.lt_trichotomy k k' with h | h | h
        · rw [g4 k h] at h5; cases h5
        · exact h
        · rw [h4 k' h] at g5; cases g5
      subst this
      exact ⟨rfl, rfl, rfl⟩
theorem at9_byte {bs : List Int} (hb : ∀ x ∈ bs, 0 ≤ x ∧ x ≤ 255) (k j : Nat) : byteP (at9 bs k j) := by
  unfold at9 byteP
  rw [List.getD_eq_getElem?_getD]
  rcases h : bs[k * 9 + j]? with _ | x
  · simp
  · exact hb x (List.mem_of_getElem? h)
theorem Byts.nineAt {w : World} {b off len cap : Nat} {bs : List Int} (h : Byts w (some ⟨b, off, none⟩) len cap bs) (k : Nat) (hk : k * 9 + 9 ≤ len) : NineAt w b (off + k * 9) (at9 bs k 0) (at9 bs k 1) (at9 bs k 2) (at9 bs k 3) (at9 bs k 4) (at9 bs k 5) (at9 bs k 6) (at9 bs k 7) (at9 bs k 8) := by
  obtain ⟨h1, h2, h3, hf, h4⟩ := h
  rcases h4 with h0 | ⟨b', off', ha, hlt, hm⟩
  · omega
  · cases ha
    have g : ∀ j, j < 9 → w.cell? ⟨b, off + k * 9 + j, none⟩ = some (.int .u8 (at9 bs k j)) := fun j hj => by
      rw [Nat.add_assoc]
      exact hm (k * 9 + j) (by omega)
    exact ⟨hlt, ⟨g 0 (by omega), g 1 (by omega), g 2 (by omega), g 3 (by omega), g 4 (by omega), g 5 (by omega), g 6 (by omega), g 7 (by omega), g 8 (by omega)⟩,
      ⟨at9_byte hf k 0, at9_byte hf k 1, at9_byte hf k 2, at9_byte hf k 3, at9_byte hf k 4, at9_byte hf k 5, at9_byte hf k 6, at9_byte hf k 7, at9_byte hf k 8⟩⟩
theorem wordOf_in {p q r s : Int} (hp : byteP p) (hq : byteP q) (hr : byteP r) (hs : byteP s) : -2147483648 ≤ wordOf p q r s ∧ wordOf p q r s ≤ 2147483647 := by
  unfold wordOf byteP at *
  split <;> omega
theorem decAt_fits {bs : List Int} (hb : ∀ x ∈ bs, 0 ≤ x ∧ x ≤ 255) (k : Nat) : (decAt bs k).fits := by
  have hw := wordOf_in (at9_byte hb k 2) (at9_byte hb k 3) (at9_byte hb k 4) (at9_byte hb k 5)
  have h0 := at9_byte hb k 0
  have h1 := at9_byte hb k 1
  have h6 := at9_byte hb k 6
  unfold decAt dec9 byteP I.fits at *
  split
  · exact ⟨WalkArith.wf_i64 (by simp), WalkArith.wf_i64 (by simp; omega), WalkArith.wf_i64 (by simp), WalkArith.wf_i64 (by simp; omega)⟩
  · exact ⟨WalkArith.wf_i64 (by simp; omega), WalkArith.wf_i64 (by simp; omega), WalkArith.wf_i64 (by simp; omega), WalkArith.wf_i64 (by simp; omega)⟩
theorem decL_fits {bs : List Int} (hb : ∀ x ∈ bs, 0 ≤ x ∧ x ≤ 255) (k : Nat) : ∀ i ∈ decL bs k, i.fits := by
  intro i hi
  simp only [decL, List.mem_map] at hi
  obtain ⟨j, _, rfl⟩ := hi
  exact decAt_fits hb j
/-- What Decode leaves. -/
def DecQ (w w' : World) (bs : List Int) (v : Value) (p e : Int) : Prop := ∃ is a cap, DecP bs is p e ∧ v = .slice a is.length cap ∧ Inss w' a is.length cap is ∧ Below w.heap.size w w'
theorem decQ_nil {w w' : World} {bs : List Int} {p e : Int} (h : DecP bs [] p e) (hb : Below w.heap.size w w') : DecQ w w' bs (.slice none 0 0) p e := ⟨[], none, 0, h, rfl, ⟨rfl, Nat.le_refl _, by unfold maxLen; omega, by simp, .inl rfl⟩, hb⟩

end Go.Proofs.YtpbmfhbcnllkaaaDoor
