/-
  The program's Starts: a message for each start.
-/
import Derived.Test.YtofkfajcibdneaaDoorNF
namespace Go.Proofs.YtofkfajcibdneaaDoor
open Go.ChangeShapes Go.WideShapes Go.ChangeAt Go.Shelf Go.RowKit Go.Lib Go.Sort Go.Deep
set_option linter.unusedVariables false
set_option linter.unusedSimpArgs false
set_option maxRecDepth 4000

set_option maxHeartbeats 8000000 in
set_option maxRecDepth 100000 in
theorem mdStarts0_any {w : World} {v : Mv} {M : Md} (h : Mds w v M) (hbig : v.sl ≤ 1099511627776) : Calls Tryd.prog 14 #[v.val M] w fun e w' => ∃ u, e = .returned u ∧ Hid (∃ B, StI w B v M M.starts.length u w') := by
  have mixed := mixed
  obtain ⟨pa, pl, pc, la, ll, lc, sa, sl, sc⟩ := v
  have hI0 : Hid (StI w w.heap.size ⟨pa, pl, pc, la, ll, lc, sa, sl, sc⟩ M 0 (.slice none 0 0) (w.alloc (.cells (Mv.cells ⟨pa, pl, pc, la, ll, lc, sa, sl, sc⟩ M) 27))) := ⟨(Below.refl _ w).alloc (Nat.le_refl _) _, heap_alloc_new w _, h, Nat.le_refl _, RowAt.nil _ _ _, fun k e => by cases e⟩
  have hsl : Hid (M.starts.length = sl) := h.2.2.1.1
  dsimp only at hbig
  have hmx : sl ≤ 9223372036854775807 := by omega
  obtain ⟨i0, hi0, hz0, hz1, hz2⟩ := info_parts13 infoM13
  clear h
  simp only [Mv.val, Mv.cells] at hI0 ⊢
  go_enter Tryd.func14, Tryd.ntmps14
  go_upto_region 2 with fail
  generalize w.heap.size = B at hI0 ⊢
  generalize w.alloc _ = W at *
  have c2 := hI0.out.box.c2
  dsimp only at c2
  go_wp2
  clear c2
  go_loopw [3, 10] (fun s3 s10 wr => ∃ (i : Nat) (u : Value), i ≤ sl ∧ s10 = .int .i64 i ∧ s3 = u ∧ Hid (StI w B ⟨pa, pl, pc, la, ll, lc, sa, sl, sc⟩ M i u wr)) (fun _ s10 _ => sl - (intOf s10).toNat)
  case atStart => exact ⟨0, _, Nat.zero_le _, rfl, rfl, hI0⟩
  case round =>
    obtain ⟨i, u, hil, rfl, hu, hI⟩ := hrel
    obtain rfl := hu.symm
    clear hI0
    by_cases hi : i < sl
    · have hiz : (i : Int) < (sl : Int) := by omega
      have hi' := Lib.hid hi
      have hw1 : IntKind.i64.wrap ((i : Int) + 1) = (i : Int) + 1 := IntWalk.i64_in _ (by omega)
      obtain ⟨b, off, hsa, hst⟩ := hI.out.box.2.2.2.1.get hi
      dsimp only at hsa
      subst hsa
      obtain ⟨s, hs⟩ : ∃ s, Hid (M.starts.getD i default = s) := ⟨_, Lib.hid rfl⟩
      rw [hs.out] at hst
      obtain ⟨hbl, x0, x1, x2⟩ := hst
      obtain ⟨dst, t, sv⟩ := s
      dsimp only at x0 x1 x2
      clear hi
      go_upto_region 5 with fail
      have hbox := Lib.hid (heap_alloc_new wr (.cells #[.int .i64 dst, .int .i64 t, .int .i64 sv] 56))
      have hI1 := Lib.hid (hI.out.below ((Below.refl _ wr).alloc (Nat.le_refl _) (.cells #[.int .i64 dst, .int .i64 t, .int .i64 sv] 56)))
      generalize wr.heap.size = Bl at *
      generalize wr.alloc _ = W1 at *
      clear x0 x1 x2 hI
      have y1 := cell_of_block (o := 1) hbox.out rfl
      go_upto_region 6 with fail
      have hkey := Lib.hid (heap_alloc_new W1 (.cells #[.int .i64 t, .int .i64 (-1), .int .i64 (i : Nat)] 48))
      have hI2 := Lib.hid (hI1.out.below ((Below.refl _ W1).alloc (Nat.le_refl _) (.cells #[.int .i64 t, .int .i64 (-1), .int .i64 (i : Nat)] 48)))
      have hbox2 := Lib.hid ((((Below.refl _ W1).alloc (Nat.le_refl _) (.cells #[.int .i64 t, .int .i64 (-1), .int .i64 (i : Nat)] 48)).block Bl (Array.getElem?_eq_some_iff.1 hbox.out).1).trans hbox.out)
      generalize W1.heap.size = Bk at *
      generalize W1.alloc _ = W2 at *
      clear y1 hbox hI1
      have y0 := cell_of_block (o := 0) hbox2.out rfl
      have y2 := cell_of_block (o := 2) hbox2.out rfl
      have k0 := cell_of_block (o := 0) hkey.out rfl
      have k1 := cell_of_block (o := 1) hkey.out rfl
      have k2 := cell_of_block (o := 2) hkey.out rfl
      have hI3 := Lib.hid (hI2.out.below ((Below.refl _ W2).alloc (Nat.le_refl _) (.cells (msgC ⟨dst, t, sv⟩ i).toArray 50)))
      have hna := Lib.hid (heap_alloc_new W2 (.cells (msgC ⟨dst, t, sv⟩ i).toArray 50))
      have hnx : Hid (∀ g off2 cap w4, Hid (RowIn w4 50 7 g off2 (i + 1) cap (msgsU M.starts i ++ msgC ⟨dst, t, sv⟩ i)) → Hid (KeptOff (fun k => u.ownBlock = some k) (W2.alloc (.cells (msgC ⟨dst, t, sv⟩ i).toArray 50)) w4) → Hid (u.ownBlock = some g ∨ (W2.alloc (.cells (msgC ⟨dst, t, sv⟩ i).toArray 50)).heap.size ≤ g) → Hid (StI w B ⟨pa, pl, pc, la, ll, lc, some ⟨b, off, none⟩, sl, sc⟩ M (i + 1) (.slice (some ⟨g, off2, none⟩) (i + 1) cap) w4)) := Lib.hid (fun g off2 cap w4 r1 r2 r3 =>
        hI3.out.more (by rw [hs.out]; exact r1.out) r2.out r3.out)
      have hav := Lib.hid hI3.out.row
      have hne := Lib.hid (news_of13 hna.out)
      have hon := Lib.hid (msgC_one ⟨dst, t, sv⟩ i)
      clear hI2 hI3 hna hs hbox2 hkey
      go_wp2_with (at_builtin; refine wpList_append_row rfl (.tmp 19) (.tmp 27) 45 rfl hav.out i0 _ 56 Tryd.underlying45 hi0 hz0 hz1 hz2 rfl (by omega) rfl ⟨W2.heap.size, 0, none⟩ 1 (msgC ⟨dst, t, sv⟩ i) rfl rfl hne.out hon.out (by have := hi'.out; unfold maxLen; omega) (by have := hi'.out; omega) ?_; intro g off2 cap2 w4 r1 r2 r3; have hn2 := hnx.out g off2 cap2 w4 r1 r2 r3; clear r1 r2 r3)
      go_roundw
      case rel => (repeat apply Exists.intro); first | exact ⟨⟨hi'.out, by go_num, rfl, hn2⟩, rfl⟩ | exact ⟨hi'.out, by go_num, rfl, hn2⟩ | exact ⟨hi'.out, by go_num, rfl, hn2, rfl⟩
      case measure => have := hi'.out; simp [intOf]; omega
    · obtain rfl : sl = i := by omega
      have hiz : ¬ (sl : Int) < (sl : Int) := by omega
      have hfin : Hid (∃ B, StI w B ⟨pa, pl, pc, la, ll, lc, sa, sl, sc⟩ M M.starts.length u wr) := ⟨B, by rw [hsl.out]; exact hI.out⟩
      clear hI hi
      go_wp2
      go_ret
      exact ⟨_, rfl, hfin⟩
theorem mdStarts_any {w : World} {v : Mv} {M : Md} (h : Mds w v M) (hbig : v.sl ≤ 1099511627776) : Calls Tryd.prog 14 #[v.val M] w fun e w' => ∃ u, e = .returned u ∧ Hid (Below w.heap.size w w' ∧ RowAt w' 50 7 u M.starts.length (msgsU M.starts M.starts.length) ∧ ∀ k, u.ownBlock = some k → w.heap.size ≤ k) := by
  refine (mdStarts0_any h hbig).mono ?_
  rintro e w' ⟨u, rfl, hI⟩
  obtain ⟨B, hI⟩ := hI.out
  exact ⟨u, rfl, hI.b, hI.row, fun k e => (hI.own k e).1⟩
end Go.Proofs.YtofkfajcibdneaaDoor
