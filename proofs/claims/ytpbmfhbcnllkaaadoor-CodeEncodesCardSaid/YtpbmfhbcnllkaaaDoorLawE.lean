/-
  The law over Encode: the program's bytes of a program are the document's.
-/
import Derived.Test.YtpbmfhbcnllkaaaDoorCodeO
import Derived.Laws.AppendOwnNone
namespace Go.Proofs.YtpbmfhbcnllkaaaDoor
open Go.ChangeShapes Go.WideShapes Go.ChangeAt Go.RowKit Go.Sort
set_option linter.unusedVariables false

/-- The last statement's contracts, at the worlds that it comes to. -/
theorem encQ_conv {w w' : World} {bs : List Int} {a : Option Addr} {cap : Nat} (h : Byts w a bs.length cap bs) (hb : Below w.heap.size w w') : (convert 28 9 (.slice a bs.length cap)).run Tryd.prog w' = .ok (.string (strOfNums bs)) w' := (h.below hb).conv

set_option maxHeartbeats 2000000 in
theorem encodes_tail {w w1 : World} {a : Option Addr} {len cap : Nat} {is : List I} {eb : Addr} {v : Value} (hT : Tab w) (he : ErrIs w eb) (h : Inss w a len cap is) (hb1 : Below w.heap.size w w1) (hown : w1.ownsRow w.heap.size 40 4 v len (flatI is)) :
    ∃ a1 cap1, v = .slice a1 len cap1 ∧ Calls Tryd.prog 14 #[.slice a1 len cap1] w1 fun e w' => ∃ a2 cap2, e = .returned (.tuple #[.slice a2 (encN is).length cap2, .int .i64 (checkN is)]) ∧ Aside (Byts w' a2 (encN is).length cap2 (encN is) ∧ Below w.heap.size w w') := by
  obtain ⟨a1, cap1, rfl, hI⟩ := inss_of_own hown h.2.2.2.1
  refine ⟨a1, cap1, rfl, (cEncode_any hI (he.below hb1)).mono ?_⟩
  rintro e w' ⟨v, rfl, hq⟩
  obtain ⟨a2, cap2, rfl, hB, hb⟩ := hq.out
  exact ⟨a2, cap2, rfl, hB, hb1.trans (hb.mono hb1.size)⟩
theorem encodes_ref {w w1 : World} {a : Option Addr} {len cap : Nat} {is : List I} (h : Inss w a len cap is) (hb1 : Below w.heap.size w w1) :
    Calls Tryd.prog 15 #[.slice a len cap] w1 fun e w' => ∃ a2 cap2, e = .returned (.tuple #[.slice a2 (encN is).length cap2, .int .i64 (checkN is)]) ∧ Aside (Byts w' a2 (encN is).length cap2 (encN is) ∧ Below w.heap.size w w' ∧ Below w1.heap.size w1 w') := by
  refine (r3Encode_any (h.below hb1)).mono ?_
  rintro e w' ⟨v, rfl, hq⟩
  obtain ⟨a2, cap2, rfl, hB, hb⟩ := hq.out
  exact ⟨a2, cap2, rfl, hB, hb1.trans (hb.mono hb1.size), hb⟩

set_option maxHeartbeats 2000000 in
theorem lawCodeEncodes {w : World} {a : Option Addr} {len cap : Nat} {is : List I} {eb : Addr} (hT : Tab w) (he : ErrIs w eb) (h : Inss w a len cap is) (hr : len * 32 ≤ 140737488351232) (hn : NilP a len cap) :
    Calls Tryd.prog 4 #[.slice a len cap] w fun e w' => e = .returned (.bool true) ∧ Below w.heap.size w w' := by
  obtain ⟨i0, hi, hz0, hz1, hz2⟩ := info_parts infoIn
  have hT' := Lib.hid hT
  have he' := Lib.hid he
  have hI := Lib.hid h
  have hfl := Lib.hid (flatI_length is)
  have hlen := Lib.hid h.1
  have h3 := fun w' (hb : Below w.heap.size w w') => awake3_any w' (hT'.out.below hb)
  have hms : Hid (len ≤ maxLen) := by have := h.2.1; have := h.2.2.1; show len ≤ maxLen; omega
  clear hT he
  cases a with
  | none =>
    obtain ⟨rfl, rfl⟩ := hn rfl
    have hnil : is = [] := List.eq_nil_of_length_eq_zero h.1
    subst hnil
    have hb1 : Below w.heap.size w (w.alloc (.cells #[] 40)) := (Below.refl _ w).alloc (Nat.le_refl _) _
    have hown : (w.alloc (.cells #[] 40)).ownsRow w.heap.size 40 4 (.slice (some ⟨w.heap.size, 0, none⟩) 0 0) 0 (flatI []) := World.ownsRow_made w #[] 0 (Nat.le_refl _) (Nat.zero_le _) (by simp)
    obtain ⟨a1, cap1, hv, hcE⟩ := encodes_tail hT'.out he'.out hI.out hb1 hown
    cases hv
    have hcR := fun w2 hb => encodes_ref (w1 := w2) hI.out hb
    clear h hn hown hb1
    go_enter Tryd.func4, Tryd.ntmps4
    go_wp2_with (at_builtin; refine wpList_append_own_none rfl _ _ 22 rfl w.heap.size 40 i0 4 Tryd.underlying22 hi _ 0 [] rfl ?c0 rfl ?_)
    case c0 => exact World.ownsRow_made w #[] 0 (Nat.le_refl _) (Nat.zero_le _) (by simp)
    generalize encN ([] : List I) = bs at hcE hcR
    generalize checkN ([] : List I) = z at hcE hcR
    go_wp2_with (first
      | (go_at_call 14; refine hcE.mono ?_; rintro e w2 ⟨a2, cap2, rfl, hq2⟩)
      | (go_at_call 15; refine (hcR _ hq2.out.2).mono ?_; rintro e w3 ⟨a3, cap3, rfl, hq3⟩; have k2 := encQ_conv hq2.out.1 hq3.out.2.2; have k3 := hq3.out.1.conv)
      | (go_at_call 13; refine (h3 _ hq3.out.2.1).mono ?_; rintro e w4 ⟨rfl, hr4⟩))
    go_ret
    exact ⟨rfl, hq3.out.2.1.trans (hr4.below.mono hq3.out.2.1.size)⟩
  | some ad =>
    have hcells := Lib.hid h.cells
    clear h hn
    go_enter Tryd.func4, Tryd.ntmps4
    go_wp2_with (at_builtin; refine wpList_append_own _ rfl _ _ 22 rfl w.heap.size 40 i0 _ 4 32 Tryd.underlying22 hi hz0 hz1 hz2 rfl (by omega) _ _ _ rfl (World.ownsRow_made w #[] 0 (Nat.le_refl _) (Nat.zero_le _) (by simp)) ad len cap (flatI is) rfl ?qc1 ?qc2 ?qc3 ?qc4 ?qc5 ?qc6 ?_)
    case qc1 => rw [hfl.out, hlen.out]
    case qc2 => intro j u hj; exact Lib.cell?_alloc_some _ (hcells.out j u hj)
    case qc3 => exact flatI_one is
    case qc4 => rw [Nat.zero_add]; exact hms.out
    case qc5 => rw [Nat.zero_add]; omega
    case qc6 => simp
    intro v' w1 hown hgrow hnil
    clear hnil
    have hb1 : Below w.heap.size w w1 := ((Below.refl _ w).alloc (Nat.le_refl _) _).grown hgrow (by simp) (by intro k hk; simp [Value.ownBlock] at hk; omega)
    have hown := (show w1.ownsRow w.heap.size 40 4 v' len (flatI is) by first | exact hown | simpa using hown)
    obtain ⟨a1, cap1, rfl, hcE⟩ := encodes_tail hT'.out he'.out hI.out hb1 hown
    have hcR := fun w2 hb => encodes_ref (w1 := w2) hI.out hb
    clear hown hgrow hcells
    generalize encN is = bs at hcE hcR
    generalize checkN is = z at hcE hcR
    go_wp2_with (first
      | (go_at_call 14; refine hcE.mono ?_; rintro e w2 ⟨a2, cap2, rfl, hq2⟩)
      | (go_at_call 15; refine (hcR _ hq2.out.2).mono ?_; rintro e w3 ⟨a3, cap3, rfl, hq3⟩; have k2 := encQ_conv hq2.out.1 hq3.out.2.2; have k3 := hq3.out.1.conv)
      | (go_at_call 13; refine (h3 _ hq3.out.2.1).mono ?_; rintro e w4 ⟨rfl, hr4⟩))
    go_ret
    exact ⟨rfl, hq3.out.2.1.trans (hr4.below.mono hq3.out.2.1.size)⟩

end Go.Proofs.YtpbmfhbcnllkaaaDoor
