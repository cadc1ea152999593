/-
  The contract of the program's Decode, over each slice of bytes that can be read.
-/
import Derived.Test.YtpbmfhbcnllkaaaDoorCodeS
namespace Go.Proofs.YtpbmfhbcnllkaaaDoor
open Go.ChangeShapes Go.WideShapes Go.ChangeAt Go.RowKit Go.Sort
set_option linter.unusedVariables false

theorem ret_dec {v : Value} {p p' e : Int} (h : p = p') : Ending.returned (.tuple #[v, .int .i64 p, .int .i64 e]) = .returned (.tuple #[v, .int .i64 p', .int .i64 e]) := by rw [h]
theorem is_nil_below {b : Addr} {w : World} : Calls Tryd.prog 21 #[.nilIface, .iface 97 (.pointer (some b))] w fun e w' => e = .returned (.bool false) ∧ w = w' := is_nil b w

set_option maxRecDepth 100000 in
set_option maxHeartbeats 2000000 in
theorem cDecode_any {w : World} {a : Option Addr} {len cap : Nat} {bs : List Int} {eb : Addr} (h : Byts w a len cap bs) (he : ErrIs w eb) :
    Calls Tryd.prog 16 #[.slice a len cap] w fun e w' => ∃ v p er, e = .returned (.tuple #[v, .int .i64 p, .int .i64 er]) ∧ Aside (DecQ w w' bs v p er) := by
  have mixed := mixed
  obtain ⟨i0, hi, hz0, hz1, hz2⟩ := info_parts infoIn
  have hmx : len ≤ 9223372036854775807 := by have := h.2.1; have := h.2.2.1; unfold maxLen at *; omega
  have hlc := h.2.1
  have hcm : cap ≤ 9223372036854775807 := by have := h.2.2.1; unfold maxLen at *; omega
  have hlen := Lib.hid h.1
  have hB := Lib.hid h
  have hE := Lib.hid he
  clear h he
  by_cases hl : 2304 < len
  · go_enter Tryd.func16, Tryd.ntmps16
    go_wp2
    go_ret3
    exact ⟨_, _, _, rfl, decQ_nil (.long (by rw [hlen.out]; exact hl)) (Below.refl _ _)⟩
  · have hl' : len ≤ 2304 := by omega
    by_cases hm : len % 9 = 0
    · have hm1 : ((len : Int) % 9 != 0) = false := by simp; omega
      have hmod := Lib.hid hm
      clear hm
      go_enter Tryd.func16, Tryd.ntmps16
      go_wp2
      go_loopw [5, 6] (fun v i wr => ∃ k : Nat, k * 9 ≤ len ∧ i = .int .i64 ((k * 9 : Nat) : Int) ∧ Below w.heap.size w wr ∧ wr.ownsRow w.heap.size 40 4 v k (flatI (decL bs k)) ∧ Aside (Taken bs k)) (fun _ i _ => len - (intOf i).toNat)
      case atStart => exact ⟨0, by omega, by simp, Below.refl _ _, World.ownsRow_nil _ _ _ _, fun j hj => by omega⟩
      case round =>
        clear hm1
        obtain ⟨k, hk, rfl, hbk, hown, htk⟩ := hrel
        by_cases hlt : k * 9 < len
        · have hk9 : k * 9 + 9 ≤ len := by have := hmod.out; omega
          obtain ⟨b, off, rfl, hbw⟩ : ∃ b off, a = some ⟨b, off, none⟩ ∧ b < w.heap.size := by
            rcases hB.out.2.2.2.2 with h0 | ⟨b, off, ha, h1, _⟩
            · omega
            · exact ⟨b, off, ha, h1⟩
          have hnine := (hB.out.below hbk).nineAt k hk9
          have hdl := Lib.hid (decL_succ bs k)
          have hnn : ((bs.length / 9 : Nat) : Int) = (len : Int) / 9 := by rw [hlen.out]; omega
          have hbs := hbk.size
          have hcapk : 9 ≤ cap - k * 9 := by omega
          have hcapm : cap - k * 9 ≤ maxLen := by unfold maxLen; omega
          have hown' := Lib.hid hown
          have hbk' := Lib.hid hbk
          clear hown hbk
          have w9 : (((k * 9 : Nat) : Int) + 9).toNat = k * 9 + 9 := by omega
          cases ht : takeAt bs k (bs.length / 9 : Nat) with
          | true =>
            have hcon : Calls Tryd.prog 25 #[.slice (some ⟨b, off + k * 9, none⟩) 9 (cap - k * 9), .int .i64 ((len : Int) / 9)] wr fun e w' => e = .returned (.tuple #[(decAt bs k).val, .nilIface]) ∧ Below wr.heap.size wr w' := by
              rw [← hnn]
              exact cread_yes hnine hcapk hcapm ht
            have hfit : ∀ u ∈ flatI [decAt bs k], u.oneCell' = true := flatI_one _
            have htk' : Hid (Taken bs (k + 1)) := fun j hj => by
              by_cases e : j = k
              · subst e; exact ht
              · exact htk.out j (by omega)
            clear ht hnine hnn hfit htk
            generalize decAt bs k = x at hcon hdl
            obtain ⟨op, xa, xb, xc⟩ := x
            simp only [I.val] at hcon
            go_wp2_with (first
              | (go_at_call 25; refine hcon.mono ?_; rintro e w2 ⟨rfl, hr2⟩; obtain ⟨gl, ge⟩ := hE.out.below (hbk'.out.trans (hr2.mono hbs)))
              | (go_at_call 21; refine (is_nil eb _).mono ?_; rintro e w3 ⟨rfl, rfl⟩)
              | (at_builtin; refine wpList_append_own _ rfl _ _ 22 rfl w.heap.size 40 i0 _ 4 32 Tryd.underlying22 hi hz0 hz1 hz2 rfl (by omega) _ _ _ rfl (((ownsRow_below hown'.out hr2).alloc _).alloc _) ⟨w2.heap.size + 1, 0, none⟩ 1 1 (flatI [⟨op, xa, xb, xc⟩]) rfl rfl ?c1 ?c2 ?c3 ?c4 ?c5 ?_))
            case c1 => exact World.news_of_block (cs := #[.int .i64 op, .int .i64 xa, .int .i64 xb, .int .i64 xc]) (t := 40) (fr := (0, 0)) (by simpa using heap_alloc_new (w2.alloc (.cells #[.int .i64 op, .int .i64 xa, .int .i64 xb, .int .i64 xc] 40)) (.cells #[.int .i64 op, .int .i64 xa, .int .i64 xb, .int .i64 xc] 40))
            case c2 => exact flatI_one _
            case c3 => unfold maxLen; omega
            case c4 => omega
            case c5 => have := hr2.size; simp; omega
            intro v' w4 hown4 hgrow4 hnil4
            clear hnil4
            have hown5 : Hid (w4.ownsRow w.heap.size 40 4 v' (k + 1) (flatI (decL bs (k + 1)))) := by rw [hdl.out, flatI_append]; exact hown4
            have hb4 : Hid (Below w.heap.size w w4) := (((hbk'.out.trans (hr2.mono hbs)).alloc (by have := hr2.size; omega) _).alloc (by have := hr2.size; simp; omega) _).grown hgrow4 (by have := hr2.size; simp; omega) (fun k hk => (hown'.out.lt k hk).1)
            clear hown4 hgrow4 hr2 gl ge hcon w9
            go_wp2
            go_roundw
            case rel => exact ⟨k + 1, by omega, by go_num, hb4.out, hown5.out, htk'.out⟩
            case measure => simp [intOf]; omega
          | false =>
            have hcon : Calls Tryd.prog 25 #[.slice (some ⟨b, off + k * 9, none⟩) 9 (cap - k * 9), .int .i64 ((len : Int) / 9)] wr fun e w' => ∃ s, e = .returned (.tuple #[I.val ⟨0, 0, 0, 0⟩, .iface 66 (.agg #[.string s])]) ∧ Below wr.heap.size wr w' := by
              rw [← hnn]
              exact cread_no hnine hcapk hcapm ht
            simp only [I.val] at hcon
            have hD : Hid (DecP bs [] ((k * 9 : Nat) : Int) 4) := .form k (by rw [hlen.out]; exact hl) (by rw [hlen.out]; exact hmod.out) (by rw [hlen.out]; omega) htk.out ht
            clear ht hnine hnn htk hdl
            go_wp2_with (first
              | (go_at_call 25; refine hcon.mono ?_; rintro e w2 ⟨s, rfl, hr2⟩; have hE2 := hE.out.below (hbk'.out.trans (hr2.mono hbs)); have hE2' := Lib.hid hE2; obtain ⟨gl, ge⟩ := hE2)
              | (go_at_call 21; refine (is_flaw_read s eb _ (hE2'.out.read (Read.mk _ _))).mono ?_; rintro e w3 ⟨rfl, hr3⟩))
            have hb3 : Hid (Below w.heap.size w w3) := ((hbk'.out.trans (hr2.mono hbs)).alloc (by have := hr2.size; omega) _).trans (hr3.below.mono (by have := hr2.size; simp; omega))
            go_ret3
            exact ⟨_, _, _, rfl, decQ_nil hD.out hb3.out⟩
        · have hk' : k = len / 9 := by omega
          subst hk'
          have hmm := Lib.hid hmod.out
          obtain ⟨a', cap', rfl, hI⟩ := inss_of_own hown (decL_fits hB.out.2.2.2.1 _)
          have hQ : Hid (DecQ w wr bs (.slice a' (len / 9) cap') (len : Nat) 0) := by
            have hD : DecP bs (decL bs (bs.length / 9)) (bs.length : Nat) 0 := .ok (by rw [hlen.out]; exact hl) (by rw [hlen.out]; exact hmod.out) (by rw [hlen.out]; exact htk.out)
            rw [hlen.out] at hD
            refine ⟨_, a', cap', hD, ?_, ?_, hbk⟩
            · rw [decL_length]
            · rw [decL_length]; exact hI
          clear hI hown hbk htk
          go_wp2
          go_ret3
          exact ⟨_, _, _, rfl, hQ.out⟩
    · have hm1 : ((len : Int) % 9 != 0) = true := by simp; omega
      go_enter Tryd.func16, Tryd.ntmps16
      go_wp2
      go_ret3
      exact ⟨_, _, _, ret_dec (by rw [hlen.out]; omega), decQ_nil (.short (by rw [hlen.out]; exact hl) (by rw [hlen.out]; exact hm)) (Below.refl _ _)⟩

end Go.Proofs.YtpbmfhbcnllkaaaDoor
