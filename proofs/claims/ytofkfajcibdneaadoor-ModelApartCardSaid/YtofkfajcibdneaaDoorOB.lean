/-
  The program's lists of places: the links from a process, those to it.
-/
import Derived.Test.YtofkfajcibdneaaDoorND
import Derived.Test.YtofkfajcibdneaaDoorOA
namespace Go.Proofs.YtofkfajcibdneaaDoor
open Go.ChangeShapes Go.WideShapes Go.ChangeAt Go.Shelf Go.RowKit Go.Lib Go.Sort Go.Deep
set_option linter.unusedVariables false
set_option linter.unusedSimpArgs false
set_option maxRecDepth 4000

theorem mdWays1_any (l : Lk) (n : Int) {w : World} {p : Nat} (hp : w.heap[p]? = some (.cells #[.int .i64 n] 3 (0, 0))) :
    Calls Tryd.prog 32 #[l.val, .pointer (some ⟨p, 0, none⟩)] w fun e w' => e = .returned (.bool (decide (l.src = n))) ∧ Hid (Below w.heap.size w w') := by
  obtain ⟨src, dst, look, loose⟩ := l
  have hbW : Hid (Below w.heap.size w (w.alloc (.cells #[.int .i64 src, .int .i64 dst, .int .i64 look, .bool loose] 43))) := (Below.refl _ w).alloc (Nat.le_refl _) _
  have hna := Lib.hid (heap_alloc_new w (.cells #[.int .i64 src, .int .i64 dst, .int .i64 look, .bool loose] 43))
  have hp' := Lib.hid ((hbW.out.block p (Array.getElem?_eq_some_iff.1 hp).1).trans hp)
  clear hp
  simp only [Lk.val]
  by_cases h1 : src = n
  · rw [decide_eq_true h1]
    subst h1
    go_enter Tryd.func32, Tryd.ntmps32
    go_upto_region 1 with fail
    generalize w.heap.size = B at hna ⊢
    generalize w.alloc _ = W at *
    have y0 := cell_of_block (o := 0) hna.out rfl
    have y1 := cell_of_block (o := 1) hna.out rfl
    have e0 := cell_of_block (o := 0) hp'.out rfl
    go_wp2
    go_ret
    exact ⟨rfl, hbW⟩
  · rw [decide_eq_false h1]
    have hz : (src == n) = false := by simp [h1]
    go_enter Tryd.func32, Tryd.ntmps32
    go_upto_region 1 with fail
    generalize w.heap.size = B at hna ⊢
    generalize w.alloc _ = W at *
    have y0 := cell_of_block (o := 0) hna.out rfl
    have y1 := cell_of_block (o := 1) hna.out rfl
    have e0 := cell_of_block (o := 0) hp'.out rfl
    go_wp2
    go_ret
    exact ⟨rfl, hbW⟩
set_option maxHeartbeats 8000000 in
set_option maxRecDepth 100000 in
theorem mdPlacesWays_any {w : World} {v : Mv} {M : Md} {p : Nat} (h : Mds w v M) (n : Int) (hp : w.heap[p]? = some (.cells #[.int .i64 n] 3 (0, 0))) (hbig : v.ll ≤ 17592186044416) : Calls Tryd.prog 31 #[v.val M, .func (.func 32) #[] #[.pointer (some ⟨p, 0, none⟩)]] w fun e w' => ∃ u, e = .returned u ∧ Hid (∃ B, WayI w (·.src) B v M n M.links.length u w') := by
  have mixed := mixed
  obtain ⟨pa, pl, pc, la, ll, lc, sa, sl, sc⟩ := v
  have hI0 : Hid (WayI w (·.src) w.heap.size ⟨pa, pl, pc, la, ll, lc, sa, sl, sc⟩ M n 0 (.slice none 0 0) (w.alloc (.cells (Mv.cells ⟨pa, pl, pc, la, ll, lc, sa, sl, sc⟩ M) 27))) := ⟨(Below.refl _ w).alloc (Nat.le_refl _) _, heap_alloc_new w _, h, Nat.le_refl _, RowAt.nil _ _ _, fun k e => by cases e⟩
  have hll : Hid (M.links.length = ll) := h.2.1.1
  dsimp only at hbig
  have hmx : ll ≤ 9223372036854775807 := by omega
  have hp' := Lib.hid hp
  obtain ⟨i0, hi0, hz0, hz1, hz2⟩ := info_parts13 infoN13
  clear h hp
  simp only [Mv.val, Mv.cells] at hI0 ⊢
  go_enter Tryd.func31, Tryd.ntmps31
  go_upto_region 2 with fail
  generalize w.heap.size = B at hI0 ⊢
  generalize w.alloc _ = W at *
  have c1 := hI0.out.box.c1
  dsimp only at c1
  go_wp2
  clear c1
  go_loopw [5, 11] (fun s5 s11 wr => ∃ (i : Nat) (u : Value), i ≤ ll ∧ s11 = .int .i64 i ∧ s5 = u ∧ Hid (WayI w (·.src) B ⟨pa, pl, pc, la, ll, lc, sa, sl, sc⟩ M n i u wr)) (fun _ s11 _ => ll - (intOf s11).toNat)
  case atStart => exact ⟨0, _, Nat.zero_le _, rfl, rfl, hI0⟩
  case round =>
    obtain ⟨i, u, hil, rfl, hu, hI⟩ := hrel
    obtain rfl := hu.symm
    clear hI0
    by_cases hi : i < ll
    · have hiz : (i : Int) < (ll : Int) := by omega
      have hi' := Lib.hid hi
      have hw1 : IntKind.i64.wrap ((i : Int) + 1) = (i : Int) + 1 := IntWalk.i64_in _ (by omega)
      obtain ⟨b, off, hla, hlk⟩ := hI.out.box.2.2.1.get hi
      dsimp only at hla
      subst hla
      obtain ⟨l, hl⟩ : ∃ l, Hid (M.links.getD i default = l) := ⟨_, Lib.hid rfl⟩
      rw [hl.out] at hlk
      obtain ⟨hbl, x0, x1, x2, x3⟩ := hlk
      obtain ⟨src, dst, look, loose⟩ := l
      dsimp only at x0 x1 x2 x3
      clear hi
      go_upto_region 5 with fail
      have hbox := Lib.hid (heap_alloc_new wr (.cells #[.int .i64 src, .int .i64 dst, .int .i64 look, .bool loose] 43))
      have hI1 := Lib.hid (hI.out.below ((Below.refl _ wr).alloc (Nat.le_refl _) (.cells #[.int .i64 src, .int .i64 dst, .int .i64 look, .bool loose] 43)))
      generalize wr.heap.size = Bl at *
      generalize wr.alloc _ = W1 at *
      clear x0 x1 x2 x3 hI
      have y0 := cell_of_block (o := 0) hbox.out rfl
      have y1 := cell_of_block (o := 1) hbox.out rfl
      have y2 := cell_of_block (o := 2) hbox.out rfl
      have y3 := cell_of_block (o := 3) hbox.out rfl
      have hcon := Lib.hid (mdWays1_any ⟨src, dst, look, loose⟩ n ((hI1.out.b.block p (Array.getElem?_eq_some_iff.1 hp'.out).1).trans hp'.out))
      simp only [Lk.val] at hcon
      by_cases hs : src = n
      · rw [decide_eq_true hs] at hcon
        have hs' := Lib.hid hs
        clear hs
        go_upto_region 6 with (go_at_call 32; refine hcon.out.mono ?_; rintro e w2 ⟨rfl, hr2⟩)
        have hI2 := Lib.hid (hI1.out.below hr2.out)
        have hav := Lib.hid ((hI2.out.below ((Below.refl _ w2).alloc (Nat.le_refl _) (.cells #[.int .i64 (i : Nat)] 3))).row)
        have hnx : Hid (∀ g off2 cap w4, Hid (RowIn w4 3 1 g off2 ((waysU (·.src) M.links n i).length + 1) cap (nats (waysU (·.src) M.links n i) ++ [.int .i64 (i : Nat)])) → Hid (KeptOff (fun k => u.ownBlock = some k) (w2.alloc (.cells #[.int .i64 (i : Nat)] 3)) w4) → Hid (u.ownBlock = some g ∨ (w2.alloc (.cells #[.int .i64 (i : Nat)] 3)).heap.size ≤ g) → Hid (WayI w (·.src) B ⟨pa, pl, pc, some ⟨b, off, none⟩, ll, lc, sa, sl, sc⟩ M n (i + 1) (.slice (some ⟨g, off2, none⟩) ((waysU (·.src) M.links n i).length + 1) cap) w4)) := Lib.hid (fun g off2 cap w4 r1 r2 r3 =>
          (hI2.out.below ((Below.refl _ w2).alloc (Nat.le_refl _) (.cells #[.int .i64 (i : Nat)] 3))).yes (by rw [hl.out]; exact hs'.out) r1.out r2.out r3.out)
        have hwl : Hid ((waysU (·.src) M.links n i).length ≤ i) := waysU_len _ _ _ _
        generalize (waysU (·.src) M.links n i).length = wl at *
        clear hI1 hI2 hcon hbox y0 y1 y2 y3 hr2
        go_wp2_with (at_builtin; refine wpList_append_row rfl (.tmp 19) (.tmp 21) 52 rfl hav.out i0 _ 8 Tryd.underlying52 hi0 hz0 hz1 hz2 rfl (by omega) rfl ⟨w2.heap.size, 0, none⟩ 1 [.int .i64 (i : Nat)] rfl rfl (cell_one_new13 _ _ _) (by simp [Value.oneCell']) (by have := hwl.out; have := hi'.out; unfold maxLen; omega) (by have := hwl.out; have := hi'.out; omega) ?_; intro g off2 cap2 w4 r1 r2 r3; have hn2 := hnx.out g off2 cap2 w4 r1 r2 r3; clear r1 r2 r3)
        go_roundw
        case rel => (repeat apply Exists.intro); first | exact ⟨⟨hi'.out, by go_num, rfl, hn2⟩, rfl⟩ | exact ⟨hi'.out, by go_num, rfl, hn2⟩ | exact ⟨hi'.out, by go_num, rfl, hn2, rfl⟩
        case measure => have := hi'.out; simp [intOf]; omega
      · rw [decide_eq_false hs] at hcon
        have hs' := Lib.hid hs
        clear hs
        go_wp2_with (go_at_call 32; refine hcon.out.mono ?_; rintro e w2 ⟨rfl, hr2⟩; have hn2 := Lib.hid ((hI1.out.below hr2.out).no (by rw [hl.out]; exact hs'.out)))
        go_roundw
        case rel => (repeat apply Exists.intro); first | exact ⟨⟨hi'.out, by go_num, rfl, hn2⟩, rfl⟩ | exact ⟨hi'.out, by go_num, rfl, hn2⟩ | exact ⟨hi'.out, by go_num, rfl, hn2, rfl⟩
        case measure => have := hi'.out; simp [intOf]; omega
    · obtain rfl : ll = i := by omega
      have hiz : ¬ (ll : Int) < (ll : Int) := by omega
      have hfin : Hid (∃ B, WayI w (·.src) B ⟨pa, pl, pc, la, ll, lc, sa, sl, sc⟩ M n M.links.length u wr) := ⟨B, by rw [hll.out]; exact hI.out⟩
      clear hI hi
      go_wp2
      go_ret
      exact ⟨_, rfl, hfin⟩
set_option maxHeartbeats 4000000 in
theorem mdWays_any {w : World} {v : Mv} {M : Md} (h : Mds w v M) (n : Int) (hbig : v.ll ≤ 17592186044416) : Calls Tryd.prog 17 #[v.val M, .int .i64 n] w fun e w' => ∃ u, e = .returned u ∧ Hid (Below w.heap.size w w' ∧ RowAt w' 3 1 u (waysU (·.src) M.links n M.links.length).length (nats (waysU (·.src) M.links n M.links.length)) ∧ ∀ k, u.ownBlock = some k → w.heap.size ≤ k) := by
  have mixed := mixed
  have hb1 := Lib.hid ((Below.refl _ w).alloc (Nat.le_refl _) (.cells (v.cells M) 27))
  have hb2 := Lib.hid (hb1.out.alloc hb1.out.size (.cells #[.int .i64 n] 3))
  have hbx := Lib.hid (h.box.below ((Below.refl _ _).alloc (Nat.le_refl _) (.cells #[.int .i64 n] 3)))
  have hpA := heap_alloc_new (w.alloc (.cells (v.cells M) 27)) (.cells #[.int .i64 n] 3)
  simp only [World.size_alloc] at hpA
  have hcl := Lib.hid (mdPlacesWays_any hbx.out.2 n hpA hbig)
  clear h hpA hb1
  simp only [Mv.val, Mv.cells] at hbx hb2 hcl ⊢
  go_enter Tryd.func17, Tryd.ntmps17
  go_upto_region 1 with fail
  generalize (w.alloc _).alloc _ = W at *
  have c0 := hbx.out.c0
  have c1 := hbx.out.c1
  have c2 := hbx.out.c2
  have c3 := hbx.out.c3
  have c4 := hbx.out.c4
  have c5 := hbx.out.c5
  clear hbx
  go_wp2_with (go_at_call 31; refine hcl.out.mono ?_; rintro e w' ⟨u, rfl, hr2⟩)
  go_ret
  obtain ⟨B, hI⟩ := hr2.out
  exact ⟨u, rfl, hb2.out.trans (hI.b.mono hb2.out.size), hI.row, fun k e => Nat.le_trans hb2.out.size (hI.own k e).1⟩
theorem mdInto1_any (l : Lk) (n : Int) {w : World} {p : Nat} (hp : w.heap[p]? = some (.cells #[.int .i64 n] 3 (0, 0))) :
    Calls Tryd.prog 33 #[l.val, .pointer (some ⟨p, 0, none⟩)] w fun e w' => e = .returned (.bool (decide (l.dst = n))) ∧ Hid (Below w.heap.size w w') := by
  obtain ⟨src, dst, look, loose⟩ := l
  have hbW : Hid (Below w.heap.size w (w.alloc (.cells #[.int .i64 src, .int .i64 dst, .int .i64 look, .bool loose] 43))) := (Below.refl _ w).alloc (Nat.le_refl _) _
  have hna := Lib.hid (heap_alloc_new w (.cells #[.int .i64 src, .int .i64 dst, .int .i64 look, .bool loose] 43))
  have hp' := Lib.hid ((hbW.out.block p (Array.getElem?_eq_some_iff.1 hp).1).trans hp)
  clear hp
  simp only [Lk.val]
  by_cases h1 : dst = n
  · rw [decide_eq_true h1]
    subst h1
    go_enter Tryd.func33, Tryd.ntmps33
    go_upto_region 1 with fail
    generalize w.heap.size = B at hna ⊢
    generalize w.alloc _ = W at *
    have y0 := cell_of_block (o := 0) hna.out rfl
    have y1 := cell_of_block (o := 1) hna.out rfl
    have e0 := cell_of_block (o := 0) hp'.out rfl
    go_wp2
    go_ret
    exact ⟨rfl, hbW⟩
  · rw [decide_eq_false h1]
    have hz : (dst == n) = false := by simp [h1]
    go_enter Tryd.func33, Tryd.ntmps33
    go_upto_region 1 with fail
    generalize w.heap.size = B at hna ⊢
    generalize w.alloc _ = W at *
    have y0 := cell_of_block (o := 0) hna.out rfl
    have y1 := cell_of_block (o := 1) hna.out rfl
    have e0 := cell_of_block (o := 0) hp'.out rfl
    go_wp2
    go_ret
    exact ⟨rfl, hbW⟩
set_option maxHeartbeats 8000000 in
set_option maxRecDepth 100000 in
theorem mdPlacesInto_any {w : World} {v : Mv} {M : Md} {p : Nat} (h : Mds w v M) (n : Int) (hp : w.heap[p]? = some (.cells #[.int .i64 n] 3 (0, 0))) (hbig : v.ll ≤ 17592186044416) : Calls Tryd.prog 31 #[v.val M, .func (.func 33) #[] #[.pointer (some ⟨p, 0, none⟩)]] w fun e w' => ∃ u, e = .returned u ∧ Hid (∃ B, WayI w (·.dst) B v M n M.links.length u w') := by
  have mixed := mixed
  obtain ⟨pa, pl, pc, la, ll, lc, sa, sl, sc⟩ := v
  have hI0 : Hid (WayI w (·.dst) w.heap.size ⟨pa, pl, pc, la, ll, lc, sa, sl, sc⟩ M n 0 (.slice none 0 0) (w.alloc (.cells (Mv.cells ⟨pa, pl, pc, la, ll, lc, sa, sl, sc⟩ M) 27))) := ⟨(Below.refl _ w).alloc (Nat.le_refl _) _, heap_alloc_new w _, h, Nat.le_refl _, RowAt.nil _ _ _, fun k e => by cases e⟩
  have hll : Hid (M.links.length = ll) := h.2.1.1
  dsimp only at hbig
  have hmx : ll ≤ 9223372036854775807 := by omega
  have hp' := Lib.hid hp
  obtain ⟨i0, hi0, hz0, hz1, hz2⟩ := info_parts13 infoN13
  clear h hp
  simp only [Mv.val, Mv.cells] at hI0 ⊢
  go_enter Tryd.func31, Tryd.ntmps31
  go_upto_region 2 with fail
  generalize w.heap.size = B at hI0 ⊢
  generalize w.alloc _ = W at *
  have c1 := hI0.out.box.c1
  dsimp only at c1
  go_wp2
  clear c1
  go_loopw [5, 11] (fun s5 s11 wr => ∃ (i : Nat) (u : Value), i ≤ ll ∧ s11 = .int .i64 i ∧ s5 = u ∧ Hid (WayI w (·.dst) B ⟨pa, pl, pc, la, ll, lc, sa, sl, sc⟩ M n i u wr)) (fun _ s11 _ => ll - (intOf s11).toNat)
  case atStart => exact ⟨0, _, Nat.zero_le _, rfl, rfl, hI0⟩
  case round =>
    obtain ⟨i, u, hil, rfl, hu, hI⟩ := hrel
    obtain rfl := hu.symm
    clear hI0
    by_cases hi : i < ll
    · have hiz : (i : Int) < (ll : Int) := by omega
      have hi' := Lib.hid hi
      have hw1 : IntKind.i64.wrap ((i : Int) + 1) = (i : Int) + 1 := IntWalk.i64_in _ (by omega)
      obtain ⟨b, off, hla, hlk⟩ := hI.out.box.2.2.1.get hi
      dsimp only at hla
      subst hla
      obtain ⟨l, hl⟩ : ∃ l, Hid (M.links.getD i default = l) := ⟨_, Lib.hid rfl⟩
      rw [hl.out] at hlk
      obtain ⟨hbl, x0, x1, x2, x3⟩ := hlk
      obtain ⟨src, dst, look, loose⟩ := l
      dsimp only at x0 x1 x2 x3
      clear hi
      go_upto_region 5 with fail
      have hbox := Lib.hid (heap_alloc_new wr (.cells #[.int .i64 src, .int .i64 dst, .int .i64 look, .bool loose] 43))
      have hI1 := Lib.hid (hI.out.below ((Below.refl _ wr).alloc (Nat.le_refl _) (.cells #[.int .i64 src, .int .i64 dst, .int .i64 look, .bool loose] 43)))
      generalize wr.heap.size = Bl at *
      generalize wr.alloc _ = W1 at *
      clear x0 x1 x2 x3 hI
      have y0 := cell_of_block (o := 0) hbox.out rfl
      have y1 := cell_of_block (o := 1) hbox.out rfl
      have y2 := cell_of_block (o := 2) hbox.out rfl
      have y3 := cell_of_block (o := 3) hbox.out rfl
      have hcon := Lib.hid (mdInto1_any ⟨src, dst, look, loose⟩ n ((hI1.out.b.block p (Array.getElem?_eq_some_iff.1 hp'.out).1).trans hp'.out))
      simp only [Lk.val] at hcon
      by_cases hs : dst = n
      · rw [decide_eq_true hs] at hcon
        have hs' := Lib.hid hs
        clear hs
        go_upto_region 6 with (go_at_call 33; refine hcon.out.mono ?_; rintro e w2 ⟨rfl, hr2⟩)
        have hI2 := Lib.hid (hI1.out.below hr2.out)
        have hav := Lib.hid ((hI2.out.below ((Below.refl _ w2).alloc (Nat.le_refl _) (.cells #[.int .i64 (i : Nat)] 3))).row)
        have hnx : Hid (∀ g off2 cap w4, Hid (RowIn w4 3 1 g off2 ((waysU (·.dst) M.links n i).length + 1) cap (nats (waysU (·.dst) M.links n i) ++ [.int .i64 (i : Nat)])) → Hid (KeptOff (fun k => u.ownBlock = some k) (w2.alloc (.cells #[.int .i64 (i : Nat)] 3)) w4) → Hid (u.ownBlock = some g ∨ (w2.alloc (.cells #[.int .i64 (i : Nat)] 3)).heap.size ≤ g) → Hid (WayI w (·.dst) B ⟨pa, pl, pc, some ⟨b, off, none⟩, ll, lc, sa, sl, sc⟩ M n (i + 1) (.slice (some ⟨g, off2, none⟩) ((waysU (·.dst) M.links n i).length + 1) cap) w4)) := Lib.hid (fun g off2 cap w4 r1 r2 r3 =>
          (hI2.out.below ((Below.refl _ w2).alloc (Nat.le_refl _) (.cells #[.int .i64 (i : Nat)] 3))).yes (by rw [hl.out]; exact hs'.out) r1.out r2.out r3.out)
        have hwl : Hid ((waysU (·.dst) M.links n i).length ≤ i) := waysU_len _ _ _ _
        generalize (waysU (·.dst) M.links n i).length = wl at *
        clear hI1 hI2 hcon hbox y0 y1 y2 y3 hr2
        go_wp2_with (at_builtin; refine wpList_append_row rfl (.tmp 19) (.tmp 21) 52 rfl hav.out i0 _ 8 Tryd.underlying52 hi0 hz0 hz1 hz2 rfl (by omega) rfl ⟨w2.heap.size, 0, none⟩ 1 [.int .i64 (i : Nat)] rfl rfl (cell_one_new13 _ _ _) (by simp [Value.oneCell']) (by have := hwl.out; have := hi'.out; unfold maxLen; omega) (by have := hwl.out; have := hi'.out; omega) ?_; intro g off2 cap2 w4 r1 r2 r3; have hn2 := hnx.out g off2 cap2 w4 r1 r2 r3; clear r1 r2 r3)
        go_roundw
        case rel => (repeat apply Exists.intro); first | exact ⟨⟨hi'.out, by go_num, rfl, hn2⟩, rfl⟩ | exact ⟨hi'.out, by go_num, rfl, hn2⟩ | exact ⟨hi'.out, by go_num, rfl, hn2, rfl⟩
        case measure => have := hi'.out; simp [intOf]; omega
      · rw [decide_eq_false hs] at hcon
        have hs' := Lib.hid hs
        clear hs
        go_wp2_with (go_at_call 33; refine hcon.out.mono ?_; rintro e w2 ⟨rfl, hr2⟩; have hn2 := Lib.hid ((hI1.out.below hr2.out).no (by rw [hl.out]; exact hs'.out)))
        go_roundw
        case rel => (repeat apply Exists.intro); first | exact ⟨⟨hi'.out, by go_num, rfl, hn2⟩, rfl⟩ | exact ⟨hi'.out, by go_num, rfl, hn2⟩ | exact ⟨hi'.out, by go_num, rfl, hn2, rfl⟩
        case measure => have := hi'.out; simp [intOf]; omega
    · obtain rfl : ll = i := by omega
      have hiz : ¬ (ll : Int) < (ll : Int) := by omega
      have hfin : Hid (∃ B, WayI w (·.dst) B ⟨pa, pl, pc, la, ll, lc, sa, sl, sc⟩ M n M.links.length u wr) := ⟨B, by rw [hll.out]; exact hI.out⟩
      clear hI hi
      go_wp2
      go_ret
      exact ⟨_, rfl, hfin⟩
set_option maxHeartbeats 4000000 in
theorem mdInto_any {w : World} {v : Mv} {M : Md} (h : Mds w v M) (n : Int) (hbig : v.ll ≤ 17592186044416) : Calls Tryd.prog 18 #[v.val M, .int .i64 n] w fun e w' => ∃ u, e = .returned u ∧ Hid (Below w.heap.size w w' ∧ RowAt w' 3 1 u (waysU (·.dst) M.links n M.links.length).length (nats (waysU (·.dst) M.links n M.links.length)) ∧ ∀ k, u.ownBlock = some k → w.heap.size ≤ k) := by
  have mixed := mixed
  have hb1 := Lib.hid ((Below.refl _ w).alloc (Nat.le_refl _) (.cells (v.cells M) 27))
  have hb2 := Lib.hid (hb1.out.alloc hb1.out.size (.cells #[.int .i64 n] 3))
  have hbx := Lib.hid (h.box.below ((Below.refl _ _).alloc (Nat.le_refl _) (.cells #[.int .i64 n] 3)))
  have hpA := heap_alloc_new (w.alloc (.cells (v.cells M) 27)) (.cells #[.int .i64 n] 3)
  simp only [World.size_alloc] at hpA
  have hcl := Lib.hid (mdPlacesInto_any hbx.out.2 n hpA hbig)
  clear h hpA hb1
  simp only [Mv.val, Mv.cells] at hbx hb2 hcl ⊢
  go_enter Tryd.func18, Tryd.ntmps18
  go_upto_region 1 with fail
  generalize (w.alloc _).alloc _ = W at *
  have c0 := hbx.out.c0
  have c1 := hbx.out.c1
  have c2 := hbx.out.c2
  have c3 := hbx.out.c3
  have c4 := hbx.out.c4
  have c5 := hbx.out.c5
  clear hbx
  go_wp2_with (go_at_call 31; refine hcl.out.mono ?_; rintro e w' ⟨u, rfl, hr2⟩)
  go_ret
  obtain ⟨B, hI⟩ := hr2.out
  exact ⟨u, rfl, hb2.out.trans (hI.b.mono hb2.out.size), hI.row, fun k e => Nat.le_trans hb2.out.size (hI.own k e).1⟩
end Go.Proofs.YtofkfajcibdneaaDoor
