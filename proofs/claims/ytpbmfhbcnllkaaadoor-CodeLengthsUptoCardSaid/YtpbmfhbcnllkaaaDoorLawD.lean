/-
  The law over Decode: the program's answer over any bytes is the document's.
-/
import Derived.Test.YtpbmfhbcnllkaaaDoorCodeV
import Derived.Test.YtpbmfhbcnllkaaaDoorSame3
import Derived.Laws.AppendOwnNone
namespace Go.Proofs.YtpbmfhbcnllkaaaDoor
open Go.ChangeShapes Go.WideShapes Go.ChangeAt Go.RowKit Go.Sort Go.Deep
set_option linter.unusedVariables false

theorem Byts.cellsAt {w : World} {ad : Addr} {len cap : Nat} {bs : List Int} (h : Byts w (some ad) len cap bs) (j : Nat) (u : Value) (hj : (cellsB bs)[j]? = some u) : w.cell? (ad.add j) = some u := by
  obtain ⟨h1, h2, h3, hf, h4⟩ := h
  have hlt : j < bs.length := by
    have := (List.getElem?_eq_some_iff.1 hj).1
    rwa [cellsB_length] at this
  rcases h4 with h0 | ⟨b, off, ha, hlt', hm⟩
  · omega
  · cases ha
    have := hm j (by omega)
    rw [add_plain, this, ← hj]
    simp [cellsB, List.getD_eq_getElem?_getD, List.getElem?_eq_getElem hlt]

theorem decodes_tail {w w1 : World} {len : Nat} {bs : List Int} {eb : Addr} {v : Value} (he : ErrIs w eb) (hby : ∀ x ∈ bs, 0 ≤ x ∧ x ≤ 255) (hb1 : Below w.heap.size w w1) (hown : w1.ownsRow w.heap.size 5 1 v len (cellsB bs)) :
    ∃ a1 cap1, v = .slice a1 len cap1 ∧ Calls Tryd.prog 16 #[.slice a1 len cap1] w1 fun e w' => ∃ is p er, Hid (DecP bs is p er) ∧ ∃ a2 cap2, e = .returned (.tuple #[.slice a2 is.length cap2, .int .i64 p, .int .i64 er]) ∧ Aside (Inss w' a2 is.length cap2 is ∧ Below w.heap.size w w') := by
  obtain ⟨a1, cap1, rfl, hI⟩ := byts_of_own hown hby
  refine ⟨a1, cap1, rfl, (cDecode_any hI (he.below hb1)).mono ?_⟩
  rintro e w' ⟨v, p, er, rfl, hq⟩
  obtain ⟨is, a2, cap2, hD, rfl, hB, hb⟩ := hq.out
  exact ⟨is, p, er, hD, a2, cap2, rfl, hB, hb1.trans (hb.mono hb1.size)⟩
theorem decodes_ref {w w1 : World} {a : Option Addr} {len cap : Nat} {bs : List Int} {is : List I} {p er : Int} (h : Byts w a len cap bs) (hb1 : Below w.heap.size w w1) (hD : Hid (DecP bs is p er)) :
    Calls Tryd.prog 17 #[.slice a len cap] w1 fun e w' => ∃ a2 cap2, e = .returned (.tuple #[.slice a2 is.length cap2, .int .i64 p, .int .i64 er]) ∧ Aside (Inss w' a2 is.length cap2 is ∧ Below w.heap.size w w' ∧ Below w1.heap.size w1 w') := by
  refine (r3Decode_any (h.below hb1)).mono ?_
  rintro e w' ⟨v, p', er', rfl, hq⟩
  obtain ⟨is', a2, cap2, hD', rfl, hB, hb⟩ := hq.out
  obtain ⟨rfl, rfl, rfl⟩ := hD.out.one hD'
  exact ⟨a2, cap2, rfl, hB, hb1.trans (hb.mono hb1.size), hb⟩
theorem decodes_same {w2 w3 : World} {a2 a3 : Option Addr} {c2 c3 n : Nat} {is : List I} (h2 : Inss w2 a2 n c2 is) (h3 : Inss w3 a3 n c3 is) (hb : Below w2.heap.size w2 w3) :
    Calls Tryd.prog 18 #[.slice a2 n c2, .slice a3 n c3] w3 fun e w' => e = .returned (.bool true) ∧ Read w3 w' := same3_eq (h2.below hb) h3

set_option maxHeartbeats 2000000 in
theorem lawCodeDecodes {w : World} {a : Option Addr} {len cap : Nat} {bs : List Int} {eb : Addr} (hT : Tab w) (he : ErrIs w eb) (h : Byts w a len cap bs) (hr : len ≤ 140737488351232) (hn : NilP a len cap) :
    Calls Tryd.prog 5 #[.slice a len cap] w fun e w' => e = .returned (.bool true) ∧ Below w.heap.size w w' := by
  obtain ⟨i0, hi, hz0, hz1, hz2⟩ := info_parts infoU8
  have hT' := Lib.hid hT
  have he' := Lib.hid he
  have hI := Lib.hid h
  have hlen := Lib.hid h.1
  have hby := Lib.hid h.2.2.2.1
  have h3 := fun w' (hb : Below w.heap.size w w') => awake3_any w' (hT'.out.below hb)
  have hms : Hid (len ≤ maxLen) := by have := h.2.1; have := h.2.2.1; show len ≤ maxLen; omega
  clear hT he
  cases a with
  | none =>
    obtain ⟨rfl, rfl⟩ := hn rfl
    have hnil : bs = [] := List.eq_nil_of_length_eq_zero h.1
    subst hnil
    have hb1 : Below w.heap.size w (w.alloc (.cells #[] 5)) := (Below.refl _ w).alloc (Nat.le_refl _) _
    have hown : (w.alloc (.cells #[] 5)).ownsRow w.heap.size 5 1 (.slice (some ⟨w.heap.size, 0, none⟩) 0 0) 0 (cellsB []) := World.ownsRow_made w #[] 0 (Nat.le_refl _) (Nat.zero_le _) (by simp)
    obtain ⟨a1, cap1, hv, hcE⟩ := decodes_tail he'.out hby.out hb1 hown
    cases hv
    have hcR := fun w2 is p er hb hD => decodes_ref (w1 := w2) (is := is) (p := p) (er := er) hI.out hb hD
    clear h hn hown hb1
    go_enter Tryd.func5, Tryd.ntmps5
    go_wp2_with (at_builtin; refine wpList_append_own_none rfl _ _ 28 rfl w.heap.size 5 i0 1 Tryd.underlying28 hi _ 0 [] rfl ?c0 rfl ?_)
    case c0 => exact World.ownsRow_made w #[] 0 (Nat.le_refl _) (Nat.zero_le _) (by simp)
    go_wp2_with (first
      | (go_at_call 16; refine hcE.mono ?_; rintro e w2 ⟨is, p, er, hD, a2, cap2, rfl, hq2⟩)
      | (go_at_call 17; refine (hcR _ _ _ _ hq2.out.2 hD).mono ?_; rintro e w3 ⟨a3, cap3, rfl, hq3⟩)
      | (go_at_call 18; refine (decodes_same hq2.out.1 hq3.out.1 hq3.out.2.2).mono ?_; rintro e w4 ⟨rfl, hr4⟩; have hb4 := Lib.hid (hq3.out.2.1.trans (hr4.below.mono hq3.out.2.1.size)))
      | (go_at_call 13; refine (h3 _ hb4.out).mono ?_; rintro e w5 ⟨rfl, hr5⟩))
    go_ret
    exact ⟨rfl, hb4.out.trans (hr5.below.mono hb4.out.size)⟩
  | some ad =>
    have hcells : Hid (∀ j u, (cellsB bs)[j]? = some u → w.cell? (ad.add j) = some u) := h.cellsAt
    clear h hn
    go_enter Tryd.func5, Tryd.ntmps5
    go_wp2_with (at_builtin; refine wpList_append_own _ rfl _ _ 28 rfl w.heap.size 5 i0 _ 1 1 Tryd.underlying28 hi hz0 hz1 hz2 rfl (by omega) _ _ _ rfl (World.ownsRow_made w #[] 0 (Nat.le_refl _) (Nat.zero_le _) (by simp)) ad len cap (cellsB bs) rfl ?qc1 ?qc2 ?qc3 ?qc4 ?qc5 ?qc6 ?_)
    case qc1 => rw [cellsB_length, hlen.out, Nat.mul_one]
    case qc2 => intro j u hj; exact Lib.cell?_alloc_some _ (hcells.out j u hj)
    case qc3 => exact cellsB_one bs
    case qc4 => rw [Nat.zero_add]; exact hms.out
    case qc5 => rw [Nat.zero_add]; omega
    case qc6 => simp
    intro v' w1 hown hgrow hnil
    clear hnil
    have hb1 : Below w.heap.size w w1 := ((Below.refl _ w).alloc (Nat.le_refl _) _).grown hgrow (by simp) (by intro k hk; simp [Value.ownBlock] at hk; omega)
    have hown := (show w1.ownsRow w.heap.size 5 1 v' len (cellsB bs) by first | exact hown | simpa using hown)
    obtain ⟨a1, cap1, rfl, hcE⟩ := decodes_tail he'.out hby.out hb1 hown
    have hcR := fun w2 is p er hb hD => decodes_ref (w1 := w2) (is := is) (p := p) (er := er) hI.out hb hD
    clear hown hgrow hcells
    go_wp2_with (first
      | (go_at_call 16; refine hcE.mono ?_; rintro e w2 ⟨is, p, er, hD, a2, cap2, rfl, hq2⟩)
      | (go_at_call 17; refine (hcR _ _ _ _ hq2.out.2 hD).mono ?_; rintro e w3 ⟨a3, cap3, rfl, hq3⟩)
      | (go_at_call 18; refine (decodes_same hq2.out.1 hq3.out.1 hq3.out.2.2).mono ?_; rintro e w4 ⟨rfl, hr4⟩; have hb4 := Lib.hid (hq3.out.2.1.trans (hr4.below.mono hq3.out.2.1.size)))
      | (go_at_call 13; refine (h3 _ hb4.out).mono ?_; rintro e w5 ⟨rfl, hr5⟩))
    go_ret
    exact ⟨rfl, hb4.out.trans (hr5.below.mono hb4.out.size)⟩

end Go.Proofs.YtpbmfhbcnllkaaaDoor
