/-
  The law that a program without jumps may be just if each of its instructions may be by itself, and there are not too many.
-/
import Derived.Test.YtpbmfhbcnllkaaaDoorLawC
namespace Go.Proofs.YtpbmfhbcnllkaaaDoor
open Go.ChangeShapes Go.WideShapes Go.ChangeAt Go.RowKit Go.Sort
set_option linter.unusedVariables false

/-- Neither a jump nor a zero. -/
def plainB (i : I) : Bool := !(i.op == 10) && !(i.op == 11)
theorem may_plain {i : I} (h : plainB i = true) (n m : Int) : mayB i n = mayB i m := by
  have h1 : i.op ≠ 10 := by intro e; simp [plainB, e] at h
  have h2 : i.op ≠ 11 := by intro e; simp [plainB, e] at h
  unfold mayB fieldsB
  simp [h1, h2]
/-- What the law has gathered behind k rounds. -/
def fineB (len : Nat) (is : List I) (k : Nat) : Bool := decide (len ≤ 256) && (is.take k).all fun i => mayB i 1
theorem fineB_zero (len : Nat) (is : List I) : fineB len is 0 = decide (len ≤ 256) := by simp [fineB]
theorem fineB_succ {len : Nat} {is : List I} {k : Nat} (hk : k < is.length) : fineB len is (k + 1) = (fineB len is k && mayB (is.getD k default) 1) := by
  unfold fineB
  rw [List.take_succ_eq_append_getElem hk, List.all_append]
  simp [List.getD_eq_getElem?_getD, List.getElem?_eq_getElem hk, Bool.and_assoc]
def Plain (is : List I) (k : Nat) : Prop := ∀ j, j < k → plainB (is.getD j default) = true
theorem fineB_end {is : List I} (hp : Plain is is.length) : (checkN is == 0) = fineB is.length is is.length := by
  unfold fineB
  rw [List.take_length]
  by_cases hl : 256 < is.length
  · rw [checkN_long hl]
    have : decide (is.length ≤ 256) = false := by simp; omega
    rw [this]
    rfl
  · have hd : decide (is.length ≤ 256) = true := by simp; omega
    rw [hd, Bool.true_and]
    have he : (is.all fun i => mayB i is.length) = is.all fun i => mayB i 1 := by
      rw [Bool.eq_iff_iff, List.all_eq_true, List.all_eq_true]
      constructor
      · intro h i hi
        obtain ⟨k, hk, rfl⟩ := List.getElem_of_mem hi
        have := hp k hk
        simp only [List.getD_eq_getElem?_getD, List.getElem?_eq_getElem hk, Option.getD_some] at this
        rw [← may_plain this is.length 1]
        exact h _ hi
      · intro h i hi
        obtain ⟨k, hk, rfl⟩ := List.getElem_of_mem hi
        have := hp k hk
        simp only [List.getD_eq_getElem?_getD, List.getElem?_eq_getElem hk, Option.getD_some] at this
        rw [may_plain this is.length 1]
        exact h _ hi
    unfold checkN
    rw [if_neg hl, he]
    cases is.all fun i => mayB i 1 <;> rfl
theorem checkN_one (x : I) : checkN [x] = if mayB x 1 then 0 else 130 := by simp [checkN]
theorem Inss.one {w : World} {a : Option Addr} {len cap : Nat} {is : List I} {b off : Nat} (h : Inss w a len cap is) (hm : ∀ j, j < len → InsAt w b (off + j * 4) (is.getD j default)) (k : Nat) (hk : k < len) : Inss w (some ⟨b, off + k * 4, none⟩) 1 (cap - k) [is.getD k default] := by
  obtain ⟨h1, h2, h3, hf, h4⟩ := h
  refine ⟨rfl, by omega, by omega, ?_, .inr ⟨b, off + k * 4, rfl, ?_⟩⟩
  · intro i hi
    simp only [List.mem_singleton] at hi
    subst hi
    refine hf _ ?_
    rw [List.getD_eq_getElem?_getD, List.getElem?_eq_getElem (by omega), Option.getD_some]
    exact List.getElem_mem _
  · intro j hj
    obtain rfl : j = 0 := by omega
    simpa using hm k hk

set_option maxRecDepth 100000 in
set_option maxHeartbeats 2000000 in
theorem lawCodeParts {w : World} {a : Option Addr} {len cap : Nat} {is : List I} {eb : Addr} (hT : Tab w) (he : ErrIs w eb) (h : Inss w a len cap is) (hr : len * 32 ≤ 140737488351232) :
    Calls Tryd.prog 8 #[.slice a len cap] w fun e w' => e = .returned (.bool true) ∧ Below w.heap.size w w' := by
  have hcap : len ≤ cap := h.2.1
  have hmx : cap ≤ 9223372036854775807 := by have := h.2.2.1; unfold maxLen at *; omega
  have hlen := Lib.hid h.1
  have h1 := fun w' (hr : Read w w') => cCheck_any (h.read hr) (he.read hr)
  have h3 := fun w' (hr : Read w w') => awake3_any w' (hT.read hr)
  have hI := Lib.hid h
  have hE := Lib.hid he
  have hend : Hid (Plain is len → (checkN is == 0) = fineB len is len) := by
    have := @fineB_end is
    rw [h.1] at this
    exact this
  have hz0 := Lib.hid (fineB_zero len is)
  generalize checkN is = z at h1 hend
  clear hT he h
  obtain ⟨f0, hf0⟩ : ∃ f0 : Bool, f0 = decide (len ≤ 256) := ⟨_, rfl⟩
  rw [← hf0] at hz0
  have hf0' : decide ((len : Int) ≤ 256) = f0 := by rw [hf0]; exact decide_eq_decide.2 (by omega)
  clear hf0
  cases f0
  all_goals
    go_enter Tryd.func8, Tryd.ntmps8
    go_wp2_with fail
    go_loopw [3, 4] (fun f i wr => ∃ k : Nat, k ≤ len ∧ i = .int .i64 k ∧ f = .bool (fineB len is k) ∧ Read w wr ∧ Aside (Plain is k)) (fun _ i _ => len - (intOf i).toNat)
    case atStart => exact ⟨0, Nat.zero_le _, rfl, by rw [hz0.out], Read.refl _, fun j hj => by omega⟩
    case round =>
      clear hf0' hz0
      obtain ⟨k, hk, rfl, rfl, hrk, hup⟩ := hrel
      by_cases hlt : k < len
      · obtain ⟨b, off, rfl, hm⟩ : ∃ b off, a = some ⟨b, off, none⟩ ∧ ∀ j, j < len → InsAt w b (off + j * 4) (is.getD j default) := by
          rcases hI.out.2.2.2.2 with h0 | h1
          · omega
          · exact h1
        have hx := (hm k hlt).read hrk
        have hone := cCheck_any (((hI.out).one hm k hlt).read hrk) (hE.out.read hrk)
        have hsu := Lib.hid (fineB_succ (len := len) (is := is) (k := k) (by rw [hlen.out]; exact hlt))
        rw [checkN_one] at hone
        have hpl : Hid (plainB (is.getD k default) = true → Plain is (k + 1)) := fun hp j hj => by
          by_cases e : j = k
          · subst e; exact hp
          · exact hup.out j (by omega)
        clear hm
        generalize is.getD k default = x at hx hone hsu hpl
        cases hy : mayB x 1 <;> rw [hy] at hone hsu <;> simp only [Bool.false_eq_true, if_false, if_true, Bool.and_true, Bool.and_false] at hone hsu <;> cases hg : fineB len is k
        all_goals
          try rw [hg] at hsu
          clear hg hy
          obtain ⟨op, xa, xb, xc⟩ := x
          obtain ⟨-, x0, x1, x2, x3⟩ := hx
          by_cases e1 : op = 10
          · subst e1
            go_wp2_with (go_at_call 13; refine (h3 _ hrk).mono ?_; rintro e w3 ⟨rfl, hr3⟩)
            go_ret
            exact ⟨rfl, (hrk.trans hr3).below⟩
          · by_cases e2 : op = 11
            · subst e2
              go_wp2_with (go_at_call 13; refine (h3 _ hrk).mono ?_; rintro e w3 ⟨rfl, hr3⟩)
              go_ret
              exact ⟨rfl, (hrk.trans hr3).below⟩
            · have e1' : (op == 10) = false := by simpa using e1
              have e2' : (op == 11) = false := by simpa using e2
              have hp := Lib.hid (hpl.out (by simp [plainB, e1, e2]))
              go_wp2_with (go_at_call 11; refine hone.mono ?_; rintro e w3 ⟨rfl, hr3⟩)
              go_round
              case rel => exact ⟨k + 1, by omega, by go_num, by rw [hsu.out], by first | exact hrk.trans hr3 | exact hrk, hp.out⟩
              case measure => simp [intOf]; omega
      · obtain rfl : k = len := by omega
        have hd := hend.out hup.out
        cases hg : fineB k is k
        all_goals
          rw [hg] at hd
          clear hg
          go_wp2_with (first | (go_at_call 11; refine (h1 _ hrk).mono ?_; rintro e w3 ⟨rfl, hr3⟩) | (go_at_call 13; refine (h3 _ (hrk.trans hr3)).mono ?_; rintro e w4 ⟨rfl, hr4⟩))
          go_ret
          exact ⟨rfl, (hrk.trans (hr3.trans hr4)).below⟩

end Go.Proofs.YtpbmfhbcnllkaaaDoor
