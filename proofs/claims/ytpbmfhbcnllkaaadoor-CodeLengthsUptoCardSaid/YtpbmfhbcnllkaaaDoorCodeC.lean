/-
  The contracts of Encode, the program's and the document's, over each slice of instructions that can be read.
-/
import Derived.Test.YtpbmfhbcnllkaaaDoorCode7
import Derived.Test.YtpbmfhbcnllkaaaDoorCodeB
import Derived.OwnWalk
import Derived.Laws.AppendOwn
import Derived.StillTailTactics
namespace Go.Proofs.YtpbmfhbcnllkaaaDoor
open Go.ChangeShapes Go.WideShapes Go.ChangeAt Go.RowKit Go.Sort
set_option linter.unusedVariables false

theorem infoU8 : (Tryd.prog.info? 5).map (fun i => (i.zero, i.size, i.bytes)) = some (some (.int .u8 0), 1, 1) := by kernel_rfl
/-- The cells of bytes. -/
def cellsB (bs : List Int) : List Value := bs.map (Value.int .u8)
theorem cellsB_length (bs : List Int) : (cellsB bs).length = bs.length := by simp [cellsB]
theorem cellsB_append (a b : List Int) : cellsB (a ++ b) = cellsB a ++ cellsB b := by simp [cellsB]
theorem cellsB_one (bs : List Int) : ∀ u ∈ cellsB bs, u.oneCell' = true := by
  intro u hu
  simp only [cellsB, List.mem_map] at hu
  obtain ⟨x, _, rfl⟩ := hu
  rfl
/-- The bytes of instructions, one behind the other. -/
def encB (is : List I) : List Int := is.flatMap enc9
theorem encB_length (is : List I) : (encB is).length = is.length * 9 := by
  induction is with
  | nil => rfl
  | cons i is ih => unfold encB at *; rw [List.flatMap_cons, List.length_append, ih, enc9_length, List.length_cons]; omega
theorem encB_bytes (is : List I) : ∀ x ∈ encB is, 0 ≤ x ∧ x ≤ 255 := by
  intro x hx
  unfold encB at hx
  obtain ⟨i, _, hi⟩ := List.mem_flatMap.1 hx
  exact enc9_bytes i x hi
theorem encB_take_succ {is : List I} {k : Nat} (h : k < is.length) : encB (is.take (k + 1)) = encB (is.take k) ++ enc9 (is.getD k default) := by
  unfold encB
  rw [List.take_succ_eq_append_getElem h, List.flatMap_append]
  simp [List.getD_eq_getElem?_getD, List.getElem?_eq_getElem h]
theorem ownsRow_below {w w' : World} {base : Nat} {e : TypeId} {size : Nat} {v : Value} {n : Nat} {xs : List Value} (h : w.ownsRow base e size v n xs) (hb : Below w.heap.size w w') : w'.ownsRow base e size v n xs :=
  h.kept (row := none) ⟨hb.os, hb.tape, hb.output, hb.size, fun k hk _ => hb.block k hk⟩ (by cases v.ownBlock <;> simp)
theorem byts_of_own {w : World} {base : Nat} {v : Value} {n : Nat} {bs : List Int} (h : w.ownsRow base 5 1 v n (cellsB bs)) (hbs : ∀ x ∈ bs, 0 ≤ x ∧ x ≤ 255) : ∃ a cap, v = .slice a n cap ∧ Byts w a n cap bs := by
  obtain ⟨hl, hv⟩ := h
  rw [cellsB_length, Nat.mul_one] at hl
  rcases hv with ⟨rfl, rfl⟩ | ⟨g, cap, cur, rfl, _, hg, hn, hm, hs, ht⟩
  · exact ⟨none, 0, rfl, hl, Nat.le_refl _, by unfold maxLen; omega, hbs, .inl rfl⟩
  · refine ⟨some ⟨g, 0, none⟩, cap, rfl, hl, hn, hm, hbs, .inr ⟨g, 0, rfl, ?_, fun k hk => ?_⟩⟩
    · exact (Array.getElem?_eq_some_iff.1 hg).1
    · have hc : w.cell? ⟨g, 0 + k, none⟩ = cur[k]? := by simp [World.cell?, hg]
      rw [hc]
      have : (cur.toList.take (n * 1))[k]? = cur[k]? := by rw [List.getElem?_take_of_lt (by omega), Array.getElem?_toList]
      rw [← this, ht]
      simp [cellsB, List.getD_eq_getElem?_getD, List.getElem?_eq_getElem (show k < bs.length by omega)]
theorem Byts.cells {w : World} {g : Nat} {len cap : Nat} {bs : List Int} (h : Byts w (some ⟨g, 0, none⟩) len cap bs) (j : Nat) (u : Value) (hj : (cellsB bs)[j]? = some u) : w.cell? ((⟨g, 0, none⟩ : Addr).add j) = some u := by
  obtain ⟨h1, h2, h3, hf, h4⟩ := h
  have hlt : j < bs.length := by
    have := (List.getElem?_eq_some_iff.1 hj).1
    rwa [cellsB_length] at this
  rcases h4 with h0 | ⟨b, off, ha, hlt', hm⟩
  · omega
  · cases ha
    have := hm j (by omega)
    rw [show (⟨g, 0, none⟩ : Addr).add j = ⟨g, 0 + j, none⟩ by simp [Addr.add]; intro h; exact h.symm, this]
    rw [← hj]
    simp [cellsB, List.getD_eq_getElem?_getD, List.getElem?_eq_getElem hlt]
/-- What Encode answers. -/
def encN (is : List I) : List Int := if checkN is = 0 then encB is else []
theorem encN_bytes (is : List I) : ∀ x ∈ encN is, 0 ≤ x ∧ x ≤ 255 := by
  unfold encN
  split
  · exact encB_bytes is
  · simp
theorem encN_length (is : List I) : (encN is).length = if checkN is = 0 then is.length * 9 else 0 := by
  unfold encN
  split
  · rw [encB_length]
  · rfl
theorem checkN_cases (is : List I) : checkN is = 0 ∨ checkN is = 2 ∨ checkN is = 130 := by
  unfold checkN
  split
  · exact .inr (.inl rfl)
  · split
    · exact .inl rfl
    · exact .inr (.inr rfl)
theorem checkN_small {is : List I} (h : checkN is = 0) : is.length ≤ 256 := by
  by_cases hl : 256 < is.length
  · rw [checkN_long hl] at h; omega
  · omega
/-- What Encode leaves. -/
def EncQ (w w' : World) (bs : List Int) (v : Value) : Prop := ∃ a cap, v = .slice a bs.length cap ∧ Byts w' a bs.length cap bs ∧ Below w.heap.size w w'

theorem encQ_nil {w w' : World} (h : Read w w') : EncQ w w' [] (.slice none 0 0) := ⟨none, 0, rfl, ⟨rfl, Nat.le_refl _, by unfold maxLen; omega, by simp, .inl rfl⟩, h.below⟩

set_option maxRecDepth 100000 in
set_option maxHeartbeats 2000000 in
theorem cEncode_ok {w : World} {a : Option Addr} {len cap : Nat} {is : List I} {eb : Addr} (h : Inss w a len cap is) (he : ErrIs w eb) (hz : checkN is = 0) :
    Calls Tryd.prog 14 #[.slice a len cap] w fun e w' => ∃ v, e = .returned (.tuple #[v, .int .i64 0]) ∧ Aside (EncQ w w' (encB is) v) := by
  obtain ⟨i0, hi, hz0, hz1, hz2⟩ := info_parts infoU8
  have hlen := h.1
  have hs : len ≤ 256 := by have := checkN_small hz; omega
  have h1 := cCheck_any h he
  rw [hz] at h1
  have hI := Lib.hid h
  have hlen' := Lib.hid hlen
  clear hz h he hlen
  go_enter Tryd.func14, Tryd.ntmps14
  go_wp2_with (go_at_call 11; refine h1.mono ?_; rintro e w1 ⟨rfl, hr1⟩)
  have hb1 := hr1.below
  clear hr1 h1
  go_loopw [5, 15] (fun v i wr => ∃ k : Nat, k ≤ len ∧ i = .int .i64 k ∧ Below w.heap.size w wr ∧ wr.ownsRow w.heap.size 5 1 v (k * 9) (cellsB (encB (is.take k)))) (fun _ i _ => len - (intOf i).toNat)
  case atStart => exact ⟨0, Nat.zero_le _, rfl, hb1, World.ownsRow_nil _ _ _ _⟩
  case round =>
    clear hb1
    obtain ⟨k, hk, rfl, hbk, hown⟩ := hrel
    by_cases hlt : k < len
    · obtain ⟨b, off, rfl, hm⟩ : ∃ b off, a = some ⟨b, off, none⟩ ∧ ∀ j, j < len → InsAt w b (off + j * 4) (is.getD j default) := by
        rcases hI.out.2.2.2.2 with h0 | h1
        · omega
        · exact h1
      have hx := (hm k hlt).below hbk
      have hsu := encB_take_succ (is := is) (k := k) (by rw [hlen'.out]; exact hlt)
      have hbo := fun w => bytesOf_any (is.getD k default) w
      clear hm
      generalize is.getD k default = x at hx hsu hbo
      have hsu' := Lib.hid hsu
      have hown' := Lib.hid hown
      have hbk' := Lib.hid hbk
      have hbs := hbk.size
      clear hown hbk hsu
      obtain ⟨op, xa, xb, xc⟩ := x
      simp only [I.val] at hbo
      obtain ⟨-, x0, x1, x2, x3⟩ := hx
      go_wp2_with (first
        | (go_at_call 24; refine (hbo _).mono ?_; rintro e w3 ⟨g, rfl, hr3, hB⟩)
        | (at_builtin; refine wpList_append_own _ rfl _ _ 28 rfl w.heap.size 5 i0 (.int .u8 0) 1 1 Tryd.underlying28 hi hz0 hz1 hz2 rfl (by decide) _ _ _ rfl (ownsRow_below (hown'.out.alloc _) hr3.below) ⟨g, 0, none⟩ 9 9 (cellsB (enc9 ⟨op, xa, xb, xc⟩)) rfl ?c0 ?c1 ?c2 ?c3 ?c4 ?c5 ?_))
      case c0 => rw [cellsB_length, enc9_length]
      case c1 => exact hB.out.cells
      case c2 => exact cellsB_one _
      case c3 => unfold maxLen; omega
      case c4 => omega
      case c5 => have := hr3.size; simp at this; omega
      intro v' w4 hown4 hgrow4 hnil4
      clear hnil4
      have hlt4 := hown'.out.lt
      have hb4 : Hid (Below w.heap.size w w4) := ((hbk'.out.alloc hbs _).trans (hr3.below.mono (by simp; omega))).grown hgrow4 (by have := hr3.size; simp at this; omega) (fun k hk => (hlt4 k hk).1)
      have hown5 : Hid (w4.ownsRow w.heap.size 5 1 v' ((k + 1) * 9) (cellsB (encB (is.take (k + 1))))) := by
        rw [hsu'.out, cellsB_append, show (k + 1) * 9 = k * 9 + 9 by omega]; exact hown4
      clear hown4 hgrow4 hlt4 hr3 hB
      go_wp2
      go_roundw
      case rel => exact ⟨k + 1, by omega, by go_num, hb4.out, hown5.out⟩
      case measure => simp [intOf]; omega
    · obtain rfl : k = len := by omega
      have ht : is.take k = is := List.take_of_length_le (by rw [hlen'.out]; exact Nat.le_refl _)
      rw [ht] at hown
      have hL : (encB is).length = k * 9 := by rw [encB_length, hlen'.out]
      rw [← hL] at hown
      clear hL
      obtain ⟨a', cap', rfl, hB⟩ := byts_of_own hown (encB_bytes is)
      have hQ := Lib.hid (show EncQ w wr (encB is) (.slice a' (encB is).length cap') from ⟨a', cap', rfl, hB, hbk⟩)
      clear hB hbk
      clear ht hown
      go_wp2
      go_ret2
      exact ⟨_, rfl, hQ.out⟩
theorem cEncode_bad {w : World} {a : Option Addr} {len cap : Nat} {is : List I} {eb : Addr} (h : Inss w a len cap is) (he : ErrIs w eb) (z : Int) (hz : checkN is = z) (hn : ¬ z = 0) :
    Calls Tryd.prog 14 #[.slice a len cap] w fun e w' => ∃ v, e = .returned (.tuple #[v, .int .i64 z]) ∧ Aside (EncQ w w' [] v) := by
  have h1 := cCheck_any h he
  rw [hz] at h1
  have hn' : (z != 0) = true := by simpa using hn
  clear hz h he hn
  go_enter Tryd.func14, Tryd.ntmps14
  go_wp2_with (go_at_call 11; refine h1.mono ?_; rintro e w1 ⟨rfl, hr1⟩)
  go_ret2
  exact ⟨_, rfl, encQ_nil hr1⟩
theorem cEncode_any {w : World} {a : Option Addr} {len cap : Nat} {is : List I} {eb : Addr} (h : Inss w a len cap is) (he : ErrIs w eb) :
    Calls Tryd.prog 14 #[.slice a len cap] w fun e w' => ∃ v, e = .returned (.tuple #[v, .int .i64 (checkN is)]) ∧ Aside (EncQ w w' (encN is) v) := by
  unfold encN
  by_cases hz : checkN is = 0
  · rw [if_pos hz, hz]; exact cEncode_ok h he hz
  · rw [if_neg hz]; exact cEncode_bad h he _ rfl hz

end Go.Proofs.YtpbmfhbcnllkaaaDoor
