/-
  The law that Decode undoes Encode, and Encode Decode.
-/
import Derived.Test.YtpbmfhbcnllkaaaDoorLawD
import Derived.Test.YtpbmfhbcnllkaaaDoorBack
namespace Go.Proofs.YtpbmfhbcnllkaaaDoor
open Go.ChangeShapes Go.WideShapes Go.ChangeAt Go.RowKit Go.Sort
set_option linter.unusedVariables false

theorem back_enc {w : World} {a : Option Addr} {len cap : Nat} {is : List I} {eb : Addr} (he : ErrIs w eb) (h : Inss w a len cap is) (hz : checkN is = 0) :
    Calls Tryd.prog 14 #[.slice a len cap] w fun e w' => ∃ a2 cap2, e = .returned (.tuple #[.slice a2 (encB is).length cap2, .int .i64 0]) ∧ Aside (Byts w' a2 (encB is).length cap2 (encB is) ∧ Below w.heap.size w w') := by
  refine (cEncode_ok h he hz).mono ?_
  rintro e w' ⟨v, rfl, hq⟩
  obtain ⟨a2, cap2, rfl, hB, hb⟩ := hq.out
  exact ⟨a2, cap2, rfl, hB, hb⟩
theorem back_enc_no {w : World} {a : Option Addr} {len cap : Nat} {is : List I} {eb : Addr} (he : ErrIs w eb) (h : Inss w a len cap is) (z : Int) (hz : checkN is = z) (hn : z ≠ 0) :
    Calls Tryd.prog 14 #[.slice a len cap] w fun e w' => ∃ v, e = .returned (.tuple #[v, .int .i64 z]) ∧ Aside (Below w.heap.size w w') := by
  refine (cEncode_bad h he z hz hn).mono ?_
  rintro e w' ⟨v, rfl, hq⟩
  obtain ⟨a2, cap2, rfl, hB, hb⟩ := hq.out
  exact ⟨_, rfl, hb⟩
theorem back_dec {w w2 : World} {a2 : Option Addr} {cap2 : Nat} {is : List I} {eb : Addr} (he : ErrIs w eb) (hz : checkN is = 0) (hb : Below w.heap.size w w2) (hy : Byts w2 a2 (encB is).length cap2 (encB is)) :
    Calls Tryd.prog 16 #[.slice a2 (encB is).length cap2] w2 fun e w' => ∃ a3 cap3, e = .returned (.tuple #[.slice a3 is.length cap3, .int .i64 ((encB is).length : Nat), .int .i64 0]) ∧ Aside (Inss w' a3 is.length cap3 is ∧ Below w.heap.size w w') := by
  refine (cDecode_any hy (he.below hb)).mono ?_
  rintro e w' ⟨v, p, er, rfl, hq⟩
  obtain ⟨is', a3, cap3, hD, rfl, hB, hb'⟩ := hq.out
  obtain ⟨rfl, rfl, rfl⟩ := hD.one (dec_of_enc hz)
  exact ⟨a3, cap3, rfl, hB, hb.trans (hb'.mono hb.size)⟩
theorem back_same {w w3 : World} {a a3 : Option Addr} {len cap cap3 : Nat} {is : List I} (h : Inss w a len cap is) (hb : Below w.heap.size w w3) (hy : Inss w3 a3 is.length cap3 is) :
    Calls Tryd.prog 18 #[.slice a3 is.length cap3, .slice a is.length cap] w3 fun e w' => e = .returned (.bool true) ∧ Aside (Below w.heap.size w w') := by
  obtain rfl := h.1
  refine (same3_eq hy (h.below hb)).mono ?_
  rintro e w' ⟨rfl, hr⟩
  exact ⟨rfl, hb.trans (hr.below.mono hb.size)⟩
theorem back_dec2 {w w4 : World} {a : Option Addr} {len cap : Nat} {bs : List Int} {is : List I} {p : Int} {eb : Addr} (he : ErrIs w eb) (h : Byts w a len cap bs) (hd : DecP bs is p 0) (hb : Below w.heap.size w w4) :
    Calls Tryd.prog 16 #[.slice a len cap] w4 fun e w' => ∃ a5 cap5, e = .returned (.tuple #[.slice a5 is.length cap5, .int .i64 p, .int .i64 0]) ∧ Aside (Inss w' a5 is.length cap5 is ∧ Below w.heap.size w w') := by
  refine (cDecode_any (h.below hb) (he.below hb)).mono ?_
  rintro e w' ⟨v, p, er, rfl, hq⟩
  obtain ⟨is', a3, cap3, hD, rfl, hB, hb'⟩ := hq.out
  obtain ⟨rfl, rfl, rfl⟩ := hD.one hd
  exact ⟨a3, cap3, rfl, hB, hb.trans (hb'.mono hb.size)⟩
theorem back_dec2_no {w w4 : World} {a : Option Addr} {len cap : Nat} {bs : List Int} {eb : Addr} (he : ErrIs w eb) (h : Byts w a len cap bs) (hd : ∀ is p, ¬ DecP bs is p 0) (hb : Below w.heap.size w w4) :
    Calls Tryd.prog 16 #[.slice a len cap] w4 fun e w' => ∃ v p er, (er != 0) = true ∧ e = .returned (.tuple #[v, .int .i64 p, .int .i64 er]) ∧ Aside (Below w.heap.size w w') := by
  refine (cDecode_any (h.below hb) (he.below hb)).mono ?_
  rintro e w' ⟨v, p, er, rfl, hq⟩
  obtain ⟨is', a3, cap3, hD, rfl, hB, hb'⟩ := hq.out
  refine ⟨_, p, er, ?_, rfl, hb.trans (hb'.mono hb.size)⟩
  by_cases e : er = 0
  · subst e; exact absurd hD (hd _ _)
  · simpa using e
theorem back_enc2 {w w5 : World} {a a5 : Option Addr} {len cap cap5 : Nat} {bs : List Int} {is : List I} {eb : Addr} (he : ErrIs w eb) (h : Byts w a len cap bs) (hz : checkN is = 0) (hbs : encB is = bs) (hb : Below w.heap.size w w5) (hy : Inss w5 a5 is.length cap5 is) :
    Calls Tryd.prog 14 #[.slice a5 is.length cap5] w5 fun e w' => ∃ a6 cap6, e = .returned (.tuple #[.slice a6 bs.length cap6, .int .i64 0]) ∧ Aside (Byts w' a6 bs.length cap6 bs ∧ Byts w' a len cap bs ∧ Below w.heap.size w w') := by
  refine (cEncode_ok hy (he.below hb) hz).mono ?_
  rintro e w' ⟨v, rfl, hq⟩
  obtain ⟨a2, cap2, rfl, hB, hb'⟩ := hq.out
  rw [hbs] at hB ⊢
  have hb2 := hb.trans (hb'.mono hb.size)
  exact ⟨a2, cap2, rfl, hB, h.below hb2, hb2⟩

set_option maxRecDepth 100000 in
set_option maxHeartbeats 4000000 in
theorem lawBack_ok_ok {w : World} {a a' : Option Addr} {len cap len' cap' : Nat} {is : List I} {bs : List Int} {eb : Addr} (hT : Tab w) (he : ErrIs w eb) (h : Inss w a len cap is) (hr : len * 32 ≤ 140737488351232) (h' : Byts w a' len' cap' bs)
    (hz : checkN is = 0) (is' : List I) (p' : Int) (hd : DecP bs is' p' 0) :
    Calls Tryd.prog 7 #[.slice a len cap, .slice a' len' cap'] w fun e w' => e = .returned (.bool true) ∧ Below w.heap.size w w' := by
  obtain rfl := h.1
  have hL : (((encB is).length : Int) != 9 * (is.length : Int)) = false := by rw [encB_length]; simp; omega
  have hc1 := back_enc he h hz
  have hc2 := fun a2 cap2 w2 hb hy => back_dec (w2 := w2) (a2 := a2) (cap2 := cap2) he hz hb hy
  have hc3 := fun a3 cap3 w3 hb hy => back_same (w3 := w3) (a3 := a3) (cap3 := cap3) h hb hy
  have hL9 : (encB is).length ≤ 140737488351232 * 9 := by rw [encB_length]; omega
  generalize (encB is).length = L at hL hc1 hc2 hL9
  obtain ⟨hz', hbs⟩ := enc_of_dec hd
  have hc4 := fun w4 hb => back_dec2 (w4 := w4) he h' hd hb
  have hc5 := fun a5 cap5 w5 hb hy => back_enc2 (w5 := w5) (a5 := a5) (cap5 := cap5) he h' hz' hbs hb hy
  clear hbs hz' hd
  clear hT he h h' hz
  go_enter Tryd.func7, Tryd.ntmps7
  go_wp2_with (first
    | (go_at_call 14; ((with_reducible refine hc1.mono ?_); rintro e w2 ⟨a2, cap2, rfl, hq2⟩))
    | (go_at_call 16; ((with_reducible refine (hc2 _ _ _ hq2.out.2 hq2.out.1).mono ?_); rintro e w3 ⟨a3, cap3, rfl, hq3⟩))
    | (go_at_call 18; refine (hc3 _ _ _ hq3.out.2 hq3.out.1).mono ?_; rintro e w4 ⟨rfl, hq4⟩)
    | (go_at_call 16; ((with_reducible refine (hc4 _ hq4.out).mono ?_); rintro e w5 ⟨a5, cap5, rfl, hq5⟩))
    | (go_at_call 14; ((with_reducible refine (hc5 _ _ _ hq5.out.2 hq5.out.1).mono ?_); rintro e w6 ⟨a6, cap6, rfl, hq6⟩; have k6 := hq6.out.1.conv; have k7 := hq6.out.2.1.conv)))
  go_ret
  exact ⟨rfl, hq6.out.2.2⟩

set_option maxRecDepth 100000 in
set_option maxHeartbeats 4000000 in
theorem lawBack_ok_no {w : World} {a a' : Option Addr} {len cap len' cap' : Nat} {is : List I} {bs : List Int} {eb : Addr} (hT : Tab w) (he : ErrIs w eb) (h : Inss w a len cap is) (hr : len * 32 ≤ 140737488351232) (h' : Byts w a' len' cap' bs)
    (hz : checkN is = 0) (hd : ∀ is' p', ¬ DecP bs is' p' 0) :
    Calls Tryd.prog 7 #[.slice a len cap, .slice a' len' cap'] w fun e w' => e = .returned (.bool true) ∧ Below w.heap.size w w' := by
  have h3 := fun w' (hb : Below w.heap.size w w') => awake3_any w' (hT.below hb)
  obtain rfl := h.1
  have hL : (((encB is).length : Int) != 9 * (is.length : Int)) = false := by rw [encB_length]; simp; omega
  have hc1 := back_enc he h hz
  have hc2 := fun a2 cap2 w2 hb hy => back_dec (w2 := w2) (a2 := a2) (cap2 := cap2) he hz hb hy
  have hc3 := fun a3 cap3 w3 hb hy => back_same (w3 := w3) (a3 := a3) (cap3 := cap3) h hb hy
  have hL9 : (encB is).length ≤ 140737488351232 * 9 := by rw [encB_length]; omega
  generalize (encB is).length = L at hL hc1 hc2 hL9
  have hc4 := fun w4 hb => back_dec2_no (w4 := w4) he h' hd hb
  clear hd
  clear hT he h h' hz
  go_enter Tryd.func7, Tryd.ntmps7
  go_wp2_with (first
    | (go_at_call 14; ((with_reducible refine hc1.mono ?_); rintro e w2 ⟨a2, cap2, rfl, hq2⟩))
    | (go_at_call 16; ((with_reducible refine (hc2 _ _ _ hq2.out.2 hq2.out.1).mono ?_); rintro e w3 ⟨a3, cap3, rfl, hq3⟩))
    | (go_at_call 18; refine (hc3 _ _ _ hq3.out.2 hq3.out.1).mono ?_; rintro e w4 ⟨rfl, hq4⟩)
    | (go_at_call 16; ((with_reducible refine (hc4 _ hq4.out).mono ?_); rintro e w5 ⟨v5, p5, er5, her, rfl, hq5⟩))
    | (go_at_call 13; refine (h3 _ hq5.out).mono ?_; rintro e w6 ⟨rfl, hr6⟩))
  go_ret
  exact ⟨rfl, hq5.out.trans (hr6.below.mono hq5.out.size)⟩

set_option maxRecDepth 100000 in
set_option maxHeartbeats 4000000 in
theorem lawBack_no_ok {w : World} {a a' : Option Addr} {len cap len' cap' : Nat} {is : List I} {bs : List Int} {eb : Addr} (hT : Tab w) (he : ErrIs w eb) (h : Inss w a len cap is) (hr : len * 32 ≤ 140737488351232) (h' : Byts w a' len' cap' bs)
    (z : Int) (hz : checkN is = z) (hn : z ≠ 0) (is' : List I) (p' : Int) (hd : DecP bs is' p' 0) :
    Calls Tryd.prog 7 #[.slice a len cap, .slice a' len' cap'] w fun e w' => e = .returned (.bool true) ∧ Below w.heap.size w w' := by
  have hc1 := back_enc_no he h z hz hn
  have hn' : (z == 0) = false := by simpa using hn
  obtain ⟨hz', hbs⟩ := enc_of_dec hd
  have hc4 := fun w4 hb => back_dec2 (w4 := w4) he h' hd hb
  have hc5 := fun a5 cap5 w5 hb hy => back_enc2 (w5 := w5) (a5 := a5) (cap5 := cap5) he h' hz' hbs hb hy
  clear hbs hz' hd
  clear hT he h h' hz hn
  go_enter Tryd.func7, Tryd.ntmps7
  go_wp2_with (first
    | (go_at_call 14; ((with_reducible refine hc1.mono ?_); rintro e w2 ⟨v2, rfl, hq2⟩))
    | (go_at_call 16; ((with_reducible refine (hc4 _ hq2.out).mono ?_); rintro e w5 ⟨a5, cap5, rfl, hq5⟩))
    | (go_at_call 14; ((with_reducible refine (hc5 _ _ _ hq5.out.2 hq5.out.1).mono ?_); rintro e w6 ⟨a6, cap6, rfl, hq6⟩; have k6 := hq6.out.1.conv; have k7 := hq6.out.2.1.conv)))
  go_ret
  exact ⟨rfl, hq6.out.2.2⟩

set_option maxRecDepth 100000 in
set_option maxHeartbeats 4000000 in
theorem lawBack_no_no {w : World} {a a' : Option Addr} {len cap len' cap' : Nat} {is : List I} {bs : List Int} {eb : Addr} (hT : Tab w) (he : ErrIs w eb) (h : Inss w a len cap is) (hr : len * 32 ≤ 140737488351232) (h' : Byts w a' len' cap' bs)
    (z : Int) (hz : checkN is = z) (hn : z ≠ 0) (hd : ∀ is' p', ¬ DecP bs is' p' 0) :
    Calls Tryd.prog 7 #[.slice a len cap, .slice a' len' cap'] w fun e w' => e = .returned (.bool true) ∧ Below w.heap.size w w' := by
  have h3 := fun w' (hb : Below w.heap.size w w') => awake3_any w' (hT.below hb)
  have hc1 := back_enc_no he h z hz hn
  have hn' : (z == 0) = false := by simpa using hn
  have hc4 := fun w4 hb => back_dec2_no (w4 := w4) he h' hd hb
  clear hd
  clear hT he h h' hz hn
  go_enter Tryd.func7, Tryd.ntmps7
  go_wp2_with (first
    | (go_at_call 14; ((with_reducible refine hc1.mono ?_); rintro e w2 ⟨v2, rfl, hq2⟩))
    | (go_at_call 16; ((with_reducible refine (hc4 _ hq2.out).mono ?_); rintro e w5 ⟨v5, p5, er5, her, rfl, hq5⟩))
    | (go_at_call 13; refine (h3 _ hq5.out).mono ?_; rintro e w6 ⟨rfl, hr6⟩))
  go_ret
  exact ⟨rfl, hq5.out.trans (hr6.below.mono hq5.out.size)⟩

theorem lawCodeBack {w : World} {a a' : Option Addr} {len cap len' cap' : Nat} {is : List I} {bs : List Int} {eb : Addr} (hT : Tab w) (he : ErrIs w eb) (h : Inss w a len cap is) (hr : len * 32 ≤ 140737488351232) (h' : Byts w a' len' cap' bs) (hr' : len' ≤ 140737488351232) :
    Calls Tryd.prog 7 #[.slice a len cap, .slice a' len' cap'] w fun e w' => e = .returned (.bool true) ∧ Below w.heap.size w w' := by
  by_cases hz : checkN is = 0
  · by_cases hd : ∃ is' p', DecP bs is' p' 0
    · obtain ⟨is', p', hd⟩ := hd
      exact lawBack_ok_ok hT he h hr h' hz is' p' hd
    · exact lawBack_ok_no hT he h hr h' hz fun is' p' hd' => hd ⟨is', p', hd'⟩
  · by_cases hd : ∃ is' p', DecP bs is' p' 0
    · obtain ⟨is', p', hd⟩ := hd
      exact lawBack_no_ok hT he h hr h' _ rfl hz is' p' hd
    · exact lawBack_no_no hT he h hr h' _ rfl hz fun is' p' hd' => hd ⟨is', p', hd'⟩

end Go.Proofs.YtpbmfhbcnllkaaaDoor
