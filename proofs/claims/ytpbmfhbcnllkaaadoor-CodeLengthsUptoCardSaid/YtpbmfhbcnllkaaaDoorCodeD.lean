/-
  The contract of the document's Encode, over each slice of instructions that can be read.
-/
import Derived.Test.YtpbmfhbcnllkaaaDoorCodeC
import Derived.Test.YtpbmfhbcnllkaaaDoorCodeM
import Derived.Deep.RegionHeld3
import Derived.Deep.AppendLies
import Derived.StillTactics
namespace Go.Proofs.YtpbmfhbcnllkaaaDoor
open Go.ChangeShapes Go.WideShapes Go.ChangeAt Go.RowKit Go.Sort
set_option linter.unusedVariables false

/-- Nine bytes, as the document's text works them out. -/
def nineV (op a n c : Int) : Array Value := #[.int .u8 (IntKind.u8.wrap op), .int .u8 (IntKind.u8.wrap a), .int .u8 (IntKind.u8.wrap (wrap32 n % 4294967296 / 16777216)), .int .u8 (IntKind.u8.wrap (wrap32 n % 4294967296 / 65536)),
  .int .u8 (IntKind.u8.wrap (wrap32 n % 4294967296 / 256)), .int .u8 (IntKind.u8.wrap (wrap32 n % 4294967296)), .int .u8 (IntKind.u8.wrap c), .int .u8 0, .int .u8 0]
theorem wrapU8 (x : Int) : IntKind.u8.wrap x = x % 256 := by rfl
theorem nineV_eq (op a n c : Int) (h0 : -2147483648 ≤ n) (h1 : n ≤ 2147483647) : (nineV op a n c).toList = cellsB (nine op a n c) := by
  have hw : wrap32 n = n := by unfold wrap32; omega
  simp only [nineV, cellsB, nine, List.map_cons, List.map_nil, wrapU8, hw]
  have h1 : n % 4294967296 / 16777216 % 256 = n % 4294967296 / 16777216 := by omega
  have h2 : n % 4294967296 % 256 = n % 256 := by omega
  rw [h1, h2]
theorem checkN_may {is : List I} (h : checkN is = 0) (k : Nat) (hk : k < is.length) : mayB (is.getD k default) is.length = true := by
  have hs : ¬ 256 < is.length := by have := checkN_small h; omega
  cases hm : mayB (is.getD k default) is.length with
  | true => rfl
  | false => rw [checkN_bad hs k hk hm] at h; omega
set_option maxRecDepth 100000 in
set_option maxHeartbeats 2000000 in
theorem r3Encode_ok {w : World} {a : Option Addr} {len cap : Nat} {is : List I} (h : Inss w a len cap is) (hz : checkN is = 0) :
    Calls Tryd.prog 15 #[.slice a len cap] w fun e w' => ∃ v, e = .returned (.tuple #[v, .int .i64 0]) ∧ Aside (EncQ w w' (encB is) v) := by
  obtain ⟨i0, hi, hz0, hz1, hz2⟩ := info_parts infoU8
  have hlen := h.1
  have hs : len ≤ 256 := by have := checkN_small hz; omega
  have h1 := r3Check_any h
  rw [hz] at h1
  have hma := Lib.hid (checkN_may hz)
  have hI := Lib.hid h
  have hlen' := Lib.hid hlen
  clear hz h hlen
  go_enter Tryd.func15, Tryd.ntmps15
  go_wp2_with (go_at_call 12; refine h1.mono ?_; rintro e w1 ⟨rfl, hr1⟩)
  have hb1 := hr1.below
  clear hr1 h1
  go_loopw [5, 6] (fun v i wr => ∃ k : Nat, k ≤ len ∧ i = .int .i64 k ∧ Below w.heap.size w wr ∧ wr.ownsRow w.heap.size 5 1 v (k * 9) (cellsB (encB (is.take k)))) (fun _ i _ => len - (intOf i).toNat)
  case atStart => exact ⟨0, Nat.zero_le _, rfl, hb1, World.ownsRow_nil _ _ _ _⟩
  case round =>
    clear hb1
    obtain ⟨k, hk, rfl, hbk, hown⟩ := hrel
    by_cases hlt : k < len
    · obtain ⟨b, off, rfl, hm⟩ : ∃ b off, a = some ⟨b, off, none⟩ ∧ ∀ j, j < len → InsAt w b (off + j * 4) (is.getD j default) := by
        rcases hI.out.2.2.2.2 with h0 | h1
        · omega
        · exact h1
      have hx := (hm k hlt).below hbk
      have hI' := Lib.hid (hm k hlt).1
      have hsu := encB_take_succ (is := is) (k := k) (by rw [hlen'.out]; exact hlt)
      have hw := may_word (hma.out k (by rw [hlen'.out]; exact hlt)) (by rw [hlen'.out]; omega)
      clear hm
      generalize is.getD k default = x at hx hsu hw
      have hsu' := Lib.hid hsu
      have hown' := Lib.hid hown
      have hbk' := Lib.hid hbk
      have hbs := hbk.size
      clear hown hbk hsu
      obtain ⟨op, xa, xb, xc⟩ := x
      obtain ⟨-, x0, x1, x2, x3⟩ := hx
      have hbW : b < w.heap.size := hI'.out
      have ag : Value.ownBlock u5 ≠ some b := by
        intro e
        have := (hown'.out.lt b e).1
        omega
      by_cases hop : op = 10
      · subst hop
        obtain ⟨hw1, hw2⟩ := hw.1 rfl
        have hsu' : Hid (encB (is.take (k + 1)) = encB (is.take k) ++ nine 10 0 xa xc) := hsu'.out
        clear hw
        go_wp2
        go_region_held3 (fun w' => w'.cell? ⟨b, off + k * 4, none⟩ = some (.int .i64 10) ∧ w'.cell? ⟨b, off + k * 4 + 3, none⟩ = some (.int .i64 xc))
          (first | go_keep | (go_split_ands; refine ⟨?_, ?_⟩ <;> (rw [hgrow.cell_far _ (by simp; omega) (Ne.symm ag)]; assumption)))
          (first | (refine step_append_lies _ (by rfl) _ _ _ (by rfl) w.heap.size 5 i0 _ 1 1 Tryd.underlying28 hi hz0 hz1 hz2 rfl (by omega) u5 (k * 9) (cellsB (encB (is.take k))) (by rfl) ((hown'.out.alloc _).drew) ⟨wr.heap.size, 0, none⟩ 9 9 (nineV 10 0 xa xc).toList (by rfl) (by rfl) (World.news_of_block (cs := nineV 10 0 xa xc) (t := 5) (fr := (0, 0)) (heap_alloc_new wr _)) (by simp [Value.oneCell', nineV]) (by omega) (by unfold maxLen; omega) (by omega) (by simp; omega) (wr.heap.size + 1) (by simp) ?_; intro gg cap w4 hown4 hgrow hat hlt4))
        have hown5 : Hid (w4.ownsRow w.heap.size 5 1 (.slice (some ⟨gg, 0, none⟩) ((k + 1) * 9) cap) ((k + 1) * 9) (cellsB (encB (is.take (k + 1))))) := by
          rw [hsu'.out, cellsB_append, show (k + 1) * 9 = k * 9 + 9 by omega]
          rw [nineV_eq _ _ _ _ hw1 hw2] at hown4
          exact hown4
        have hb4 : Hid (Below w.heap.size w w4) := ((hbk'.out.alloc hbs _).drew).grown hgrow (by simp; omega) (fun k hk => (hown'.out.lt k hk).1)
        clear hown4 hgrow hat hlt4 ag
        rw [show k * 9 + 9 = (k + 1) * 9 by omega]
        go_wp2
        go_roundw
        case rel => exact ⟨k + 1, by omega, by go_num, hb4.out, hown5.out⟩
        case measure => simp [intOf]; omega
      · obtain ⟨hw1, hw2⟩ := hw.2 hop
        have hsu'' : encB (is.take (k + 1)) = encB (is.take k) ++ nine op xa xb xc := by rw [hsu'.out]; simp [enc9, hop]
        have hop' : (op == 10) = false := by simpa using hop
        clear hw hsu'
        have hsu' := Lib.hid hsu''
        clear hsu''
        go_wp2
        go_region_held3 (fun w' => w'.cell? ⟨b, off + k * 4, none⟩ = some (.int .i64 op) ∧ w'.cell? ⟨b, off + k * 4 + 3, none⟩ = some (.int .i64 xc))
          (first | go_keep | (go_split_ands; refine ⟨?_, ?_⟩ <;> (rw [hgrow.cell_far _ (by simp; omega) (Ne.symm ag)]; assumption)))
          (first | (refine step_append_lies _ (by rfl) _ _ _ (by rfl) w.heap.size 5 i0 _ 1 1 Tryd.underlying28 hi hz0 hz1 hz2 rfl (by omega) u5 (k * 9) (cellsB (encB (is.take k))) (by rfl) ((hown'.out.alloc _).drew) ⟨wr.heap.size, 0, none⟩ 9 9 (nineV op xa xb xc).toList (by rfl) (by rfl) (World.news_of_block (cs := nineV op xa xb xc) (t := 5) (fr := (0, 0)) (heap_alloc_new wr _)) (by simp [Value.oneCell', nineV]) (by omega) (by unfold maxLen; omega) (by omega) (by simp; omega) (wr.heap.size + 1) (by simp) ?_; intro gg cap w4 hown4 hgrow hat hlt4))
        have hown5 : Hid (w4.ownsRow w.heap.size 5 1 (.slice (some ⟨gg, 0, none⟩) ((k + 1) * 9) cap) ((k + 1) * 9) (cellsB (encB (is.take (k + 1))))) := by
          rw [hsu'.out, cellsB_append, show (k + 1) * 9 = k * 9 + 9 by omega]
          rw [nineV_eq _ _ _ _ hw1 hw2] at hown4
          exact hown4
        have hb4 : Hid (Below w.heap.size w w4) := ((hbk'.out.alloc hbs _).drew).grown hgrow (by simp; omega) (fun k hk => (hown'.out.lt k hk).1)
        clear hown4 hgrow hat hlt4 ag
        rw [show k * 9 + 9 = (k + 1) * 9 by omega]
        go_wp2
        go_roundw
        case rel => exact ⟨k + 1, by omega, by go_num, hb4.out, hown5.out⟩
        case measure => simp [intOf]; omega
    · obtain rfl : k = len := by omega
      have ht : is.take k = is := List.take_of_length_le (by rw [hlen'.out]; exact Nat.le_refl _)
      rw [ht] at hown
      have hL : (encB is).length = k * 9 := by rw [encB_length, hlen'.out]
      rw [← hL] at hown
      clear hL
      obtain ⟨a', cap', rfl, hB⟩ := byts_of_own hown (encB_bytes is)
      have hQ := Lib.hid (show EncQ w wr (encB is) (.slice a' (encB is).length cap') from ⟨a', cap', rfl, hB, hbk⟩)
      clear hB hbk
      clear ht hown
      go_wp2
      go_ret2
      exact ⟨_, rfl, hQ.out⟩
theorem r3Encode_bad {w : World} {a : Option Addr} {len cap : Nat} {is : List I} (h : Inss w a len cap is) (z : Int) (hz : checkN is = z) (hn : ¬ z = 0) :
    Calls Tryd.prog 15 #[.slice a len cap] w fun e w' => ∃ v, e = .returned (.tuple #[v, .int .i64 z]) ∧ Aside (EncQ w w' [] v) := by
  have h1 := r3Check_any h
  rw [hz] at h1
  have hn' : (z != 0) = true := by simpa using hn
  clear hz h hn
  go_enter Tryd.func15, Tryd.ntmps15
  go_wp2_with (go_at_call 12; refine h1.mono ?_; rintro e w1 ⟨rfl, hr1⟩)
  go_ret2
  exact ⟨_, rfl, encQ_nil hr1⟩
theorem r3Encode_any {w : World} {a : Option Addr} {len cap : Nat} {is : List I} (h : Inss w a len cap is) :
    Calls Tryd.prog 15 #[.slice a len cap] w fun e w' => ∃ v, e = .returned (.tuple #[v, .int .i64 (checkN is)]) ∧ Aside (EncQ w w' (encN is) v) := by
  unfold encN
  by_cases hz : checkN is = 0
  · rw [if_pos hz, hz]; exact r3Encode_ok h hz
  · rw [if_neg hz]; exact r3Encode_bad h _ rfl hz

end Go.Proofs.YtpbmfhbcnllkaaaDoor
