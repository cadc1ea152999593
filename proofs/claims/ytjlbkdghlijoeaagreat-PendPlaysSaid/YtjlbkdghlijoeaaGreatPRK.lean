/-
  One call of a script, on both: Cut, Turn; and all of them.
  A script that can be read; the looks behind a play.
-/
import Derived.Test.YtjlbkdghlijoeaaGreatPRG
namespace Go.Proofs.YtjlbkdghlijoeaaGreat
open Go.ChangeShapes Go.WideShapes Go.ChangeAt Go.Shelf Go.RowKit Go.Lib Go.Sort Go.Deep Go.Maps
set_option linter.unusedVariables false

set_option maxHeartbeats 4000000 in
set_option maxRecDepth 100000 in
theorem play_cut {w wr : World} {pb dp rb K n : Nat} {T : List M} (h : Mixed w pb dp rb K K n (fun _ => False) T T wr) (nn : Int) (m : M) (hm : m.fits) :
    Calls Tryz.prog 7 #[.pointer (some ⟨pb, 0, none⟩), .pointer (some ⟨dp, 0, none⟩), .agg #[.int .i64 3, .int .i64 nn, .int .i64 m.k.t, .int .i64 m.k.f, .int .i64 m.k.s, .int .i64 m.to, .int .i64 m.v, .int .i64 m.u, .bool m.anti]] wr fun e w' => e = .returned (.bool true) ∧ Hid (∃ K' T', Mixed w pb dp rb K' K' (n + 1) (fun _ => False) T' T' w') := by
  have mixed := mixed
  have hmx := h.others (X' := fun k => wr.heap.size ≤ k ∧ k < wr.heap.size + 3) (playW_below wr 3 nn m) (fun k hk => ⟨hk.1, by rw [playW_size]; exact hk.2⟩)
  have hpw : Hid (playW wr 3 nn m = ((wr.alloc (.cells #[.int .i64 3, .int .i64 nn, .int .i64 m.k.t, .int .i64 m.k.f, .int .i64 m.k.s, .int .i64 m.to, .int .i64 m.v, .int .i64 m.u, .bool m.anti] 36)).alloc (.cells #[.int .i64 0, .int .i64 0, .int .i64 0, .int .i64 0, .int .i64 0, .int .i64 0, .bool false] 34)).alloc (.cells #[.int .i64 0, .int .i64 0, .int .i64 0, .int .i64 0, .int .i64 0, .int .i64 0, .bool false] 34)) := rfl
  have hop := Lib.hid (playW_op wr 3 nn m)
  have hba := Lib.hid (playW_a wr 3 nn m)
  have hbb := Lib.hid (playW_b wr 3 nn m)
  generalize playW wr 3 nn m = W3 at hmx hpw hop hba hbb
  obtain ⟨x, c, T', hq, hd⟩ := hmx.cut m.k.f m.u hm.1.2.1 hm.2.2.2
  obtain ⟨y0, yn, y1, y2, y3, y4, y5, y6, y7⟩ := hop.out.at
  have h6 : Hid (∀ w5, Mixed w pb dp rb K K n (fun k => wr.heap.size ≤ k ∧ k < wr.heap.size + 3) T' T w5 ∧ KeptOff (fun k => ¬ (wr.heap.size ≤ k ∧ k < wr.heap.size + 3)) W3 w5 → BoxM w5 (wr.heap.size + 1) zeroM ∧ Mixed w pb dp rb K K n (fun k => wr.heap.size ≤ k ∧ k < wr.heap.size + 3) T' T (w5.setRow (wr.heap.size + 1) x.cells) ∧ BoxM (w5.setRow (wr.heap.size + 1) x.cells) (wr.heap.size + 1) x ∧ BoxM (w5.setRow (wr.heap.size + 1) x.cells) (wr.heap.size + 1 + 1) zeroM ∧ OpAt (w5.setRow (wr.heap.size + 1) x.cells) wr.heap.size 3 nn m) := by
    rintro w5 ⟨h1, h2⟩
    have hk := KeptOff.row w5 (wr.heap.size + 1) x.cells
    have ha := hba.out.kept h2 (fun e => e ⟨by omega, by omega⟩)
    exact ⟨ha, h1.write (hk.mono (fun k _ e => ⟨by omega, by omega⟩)), ha.row x, (hbb.out.kept h2 (fun e => e ⟨by omega, by omega⟩)).kept hk (by omega), ((hop.out.kept h2 (fun e => e ⟨by omega, by omega⟩)).kept hk (by omega)).at⟩
  have h8 : Hid (∀ W6 w7, BoxM W6 (wr.heap.size + 1) x → BoxM W6 (wr.heap.size + 1 + 1) zeroM → Mixed w pb dp rb K K n (fun k => wr.heap.size ≤ k ∧ k < wr.heap.size + 3) T' T' w7 ∧ KeptOff (fun k => ¬ (wr.heap.size ≤ k ∧ k < wr.heap.size + 3)) W6 w7 → BoxM w7 (wr.heap.size + 1 + 1) zeroM ∧ (∃ K' T1, Mixed w pb dp rb K' K' (n + 1) (fun _ => False) T1 T1 (w7.setRow (wr.heap.size + 1 + 1) x.cells)) ∧ BoxM (w7.setRow (wr.heap.size + 1 + 1) x.cells) (wr.heap.size + 1) x ∧ BoxM (w7.setRow (wr.heap.size + 1 + 1) x.cells) (wr.heap.size + 1 + 1) x) := by
    rintro W6 w7 b1 b2 ⟨h1, h2⟩
    have hk := KeptOff.row w7 (wr.heap.size + 1 + 1) x.cells
    have hb := b2.kept h2 (fun e => e ⟨by omega, by omega⟩)
    exact ⟨hb, ⟨K, _, (h1.write (hk.mono (fun k _ e => ⟨by omega, by omega⟩))).drop.mono (Nat.le_succ n)⟩, (b1.kept h2 (fun e => e ⟨by omega, by omega⟩)).kept hk (by omega), hb.row x⟩
  have heq := fun w => eqlM x x w
  simp only [decide_true, M.val] at heq hq
  have hxv : x.val = .agg x.cells := rfl
  simp only [hxv] at hd
  clear hxv
  have hq' := Lib.hid hq
  have hd' := Lib.hid hd
  clear h hmx hop hq hd hba hbb
  go_enter Tryz.func7, Tryz.ntmps7
  go_upto_region 5 with (fail)
  rw [← hpw.out]
  go_upto_region 17 with (first
    | (go_at_call 23; refine hq'.out.mono ?_; rintro e w5 ⟨rfl, h5⟩; have h6x := h6.out w5 h5.out; have h6' := Lib.hid h6x; clear h6x h5)
    | (refine wpList_store_row rfl 34 (.tmp 7) (.tmp 80) rfl (wr.heap.size + 1) x.cells rfl rfl 34 zeroM.cells h6'.out.1 infoS rfl (M.cells_one x) ?_))
  have hM6 := h6'.out.2
  clear h6' h6 hq' y0 yn y1 y2 y3 y4 y5 y6 y7
  generalize w5.setRow (wr.heap.size + 1) x.cells = W6 at hM6 ⊢
  have yd := hM6.1.row.c0
  obtain ⟨-, -, -, u2, -, -, -, u6, -⟩ := hM6.2.2.2
  have hM6' := Lib.hid hM6
  clear hM6
  have hd7 := Lib.hid (hd'.out W6.drew (hM6'.out.1.below (Below.refl _ W6).drew))
  have hst' : Hid (∀ (V : World), BoxM V (wr.heap.size + 1 + 1) zeroM → (storeCells ⟨wr.heap.size + 1 + 1, 0, none⟩ x.cells.toList).run Tryz.prog V = .ok () (V.setRow (wr.heap.size + 1 + 1) x.cells)) := fun V hz => by
    have := run_storeCells_at Tryz.prog (wr.heap.size + 1 + 1) 0 34 x.cells.toList 0 zeroM.cells V hz (by rw [Array.length_toList]; exact Nat.le_refl _) (fun v hv => encM_one x v hv)
    simpa [M.cells, zeroM] using this
  have h8d : Hid (∀ w7, Mixed w pb dp rb K K n (fun k => wr.heap.size ≤ k ∧ k < wr.heap.size + 3) T' T' w7 ∧ KeptOff (fun k => ¬ (wr.heap.size ≤ k ∧ k < wr.heap.size + 3)) W6.drew w7 → BoxM w7 (wr.heap.size + 1 + 1) zeroM ∧ (∃ K' T1, Mixed w pb dp rb K' K' (n + 1) (fun _ => False) T1 T1 (w7.setRow (wr.heap.size + 1 + 1) x.cells)) ∧ BoxM (w7.setRow (wr.heap.size + 1 + 1) x.cells) (wr.heap.size + 1) x ∧ BoxM (w7.setRow (wr.heap.size + 1 + 1) x.cells) (wr.heap.size + 1 + 1) x) := fun w7 h7 =>
    h8.out W6.drew w7 (hM6'.out.2.1.kept (S := fun _ => False) (.of_below (Below.refl _ W6).drew) (fun e => e)) (hM6'.out.2.2.1.kept (S := fun _ => False) (.of_below (Below.refl _ W6).drew) (fun e => e)) h7
  clear h8 hM6' hd'
  go_region_with (first
    | (go_at_call 24; (with_reducible refine hd7.out.mono ?_); rintro e w7 ⟨rfl, h7⟩; have h8x := h8d.out w7 h7.out; have h8' := Lib.hid h8x; have hrun := hst'.out w7 h8x.1; clear h8x h7))
  all_goals
    have hM8 := h8'.out.2
    clear h8' h8d hd7 hst' hrun u2 u6 yd
    generalize w7.setRow (wr.heap.size + 1 + 1) x.cells = W8 at hM8 ⊢
    obtain ⟨hR, ha, hb⟩ := hM8
    obtain ⟨-, y0, y1, y2, y3, y4, y5, y6⟩ := ha.at
    obtain ⟨-, z0, z1, z2, z3, z4, z5, z6⟩ := hb.at
    simp only [Nat.zero_add] at y0 y1 y2 y3 y4 y5 y6 z0 z1 z2 z3 z4 z5 z6
    have hR' := Lib.hid hR
    clear hR ha hb
    go_wp2
    go_ret
    exact ⟨rfl, hR'⟩

theorem r9kind_any (w : World) (kd : Int) : Calls Tryz.prog 17 #[.int .i64 kd] w fun e w' => e = .returned (.bool (KindOf kd).isSome) ∧ w = w' := by
  by_cases h0 : 0 ≤ kd
  · by_cases h2 : kd ≤ 2
    · have hv : (KindOf kd).isSome = true := by
        unfold KindOf
        split
        · rfl
        · split
          · rfl
          · rw [if_pos (by omega)]; rfl
      rw [hv]
      clear hv
      go_enter Tryz.func17, Tryz.ntmps17
      go_wp2
      go_ret
      exact ⟨rfl, rfl⟩
    · have hv : (KindOf kd).isSome = false := by
        unfold KindOf
        rw [if_neg (by omega), if_neg (by omega), if_neg (by omega)]; rfl
      rw [hv]
      clear hv
      go_enter Tryz.func17, Tryz.ntmps17
      go_wp2
      go_ret
      exact ⟨rfl, rfl⟩
  · have hv : (KindOf kd).isSome = false := by
      unfold KindOf
      rw [if_neg (by omega), if_neg (by omega), if_neg (by omega)]; rfl
    rw [hv]
    clear hv
    go_enter Tryz.func17, Tryz.ntmps17
    go_wp2
    go_ret
    exact ⟨rfl, rfl⟩
theorem KindOf.eq {kd : Int} {K : Nat} (h : KindOf kd = some K) : kd = (K : Int) ∧ (K = 0 ∨ K = 1 ∨ K = 2) := by
  unfold KindOf at h
  split at h
  · simp at h; omega
  · split at h
    · simp at h; omega
    · split at h
      · simp at h; omega
      · simp at h
theorem r9Turn_any {w : World} {dp K' : Nat} {kd : Int} {K2 : Nat} (hk : KindOf kd = some K2) (c1 : w.cell? ⟨dp, 1, none⟩ = some (.int .i64 K')) (fz : w.frozen? ⟨dp, 1, none⟩ = false) : Calls Tryz.prog 25 #[.pointer (some ⟨dp, 0, none⟩), .int .i64 kd] w fun e w' => e = .returned (.int .i64 0) ∧ w' = w.setCell ⟨dp, 1, none⟩ (.int .i64 K2) := by
  have hc := r9kind_any w kd
  rw [hk] at hc
  obtain ⟨rfl, -⟩ := KindOf.eq hk
  simp only [Option.isSome_some] at hc
  clear hk
  go_enter Tryz.func25, Tryz.ntmps25
  go_wp2_with (go_at_call 17; (with_reducible refine hc.mono ?_); rintro e w1 ⟨rfl, rfl⟩)
  go_ret
  exact ⟨rfl, rfl⟩
theorem r9Turn_no {w : World} {dp : Nat} {kd : Int} (hk : KindOf kd = none) : Calls Tryz.prog 25 #[.pointer (some ⟨dp, 0, none⟩), .int .i64 kd] w fun e w' => e = .returned (.int .i64 1) ∧ w = w' := by
  have hc := r9kind_any w kd
  rw [hk] at hc
  simp only [Option.isSome_none] at hc
  clear hk
  go_enter Tryz.func25, Tryz.ntmps25
  go_wp2_with (go_at_call 17; (with_reducible refine hc.mono ?_); rintro e w1 ⟨rfl, rfl⟩)
  go_ret
  exact ⟨rfl, rfl⟩
theorem r9New_any (w : World) {kd : Int} {K : Nat} (hk : KindOf kd = some K) : Calls Tryz.prog 6 #[.int .i64 kd] w fun e w' => ∃ dp, e = .returned (.tuple #[.pointer (some ⟨dp, 0, none⟩), .int .i64 0]) ∧ Hid (DocAt w' w.heap.size none 0 [] ∧ w.heap.size < dp ∧ DRow w' dp w.heap.size K ∧ Below w.heap.size w w') := by
  have hc := r9kind_any w kd
  rw [hk] at hc
  obtain ⟨rfl, -⟩ := KindOf.eq hk
  simp only [Option.isSome_some] at hc
  have hn := rNew_any w
  clear hk
  go_enter Tryz.func6, Tryz.ntmps6
  go_wp2_with (first
    | (go_at_call 17; (with_reducible refine hc.mono ?_); rintro e w1 ⟨rfl, rfl⟩)
    | (go_at_call 18; (with_reducible refine hn.mono ?_); rintro e w1 ⟨rfl, hD1⟩; have hD := Lib.hid hD1; clear hD1))
  go_ret2
  obtain ⟨h1, h2⟩ := hD.out
  have hal : Below w1.heap.size w1 (w1.alloc (.cells #[.pointer (some ⟨w.heap.size, 0, none⟩), .int .i64 K] 43)) := (Below.refl _ w1).alloc (Nat.le_refl _) _
  exact ⟨_, rfl, h1.below hal, h1.lt, heap_alloc_new w1 _, h2.trans (hal.mono h2.size)⟩
theorem r9New_no (w : World) {kd : Int} (hk : KindOf kd = none) : Calls Tryz.prog 6 #[.int .i64 kd] w fun e w' => e = .returned (.tuple #[.pointer none, .int .i64 1]) ∧ w = w' := by
  have hc := r9kind_any w kd
  rw [hk] at hc
  simp only [Option.isSome_none] at hc
  clear hk
  go_enter Tryz.func6, Tryz.ntmps6
  go_wp2_with (go_at_call 17; (with_reducible refine hc.mono ?_); rintro e w1 ⟨rfl, rfl⟩)
  go_ret2
  exact ⟨rfl, rfl⟩

/-- Turn, on both sides. -/
theorem Mixed.turn {w wr : World} {pb dp rb K n : Nat} {X : Nat → Prop} {T : List M} (h : Mixed w pb dp rb K K n X T T wr) (hn : 16384 ≤ n) (kd : Int) :
    ∃ (c : Int) (K2 : Nat), (Calls Tryz.prog 14 #[.pointer (some ⟨pb, 0, none⟩), .int .i64 kd] wr fun e w1 => e = .returned (.int .i64 c) ∧ Hid (Mixed w pb dp rb K2 K n X T T w1 ∧ KeptOff (fun k => ¬ X k) wr w1)) ∧
      ∀ w5, Mixed w pb dp rb K2 K n X T T w5 → Calls Tryz.prog 25 #[.pointer (some ⟨dp, 0, none⟩), .int .i64 kd] w5 fun e w1 => e = .returned (.int .i64 c) ∧ Hid (Mixed w pb dp rb K2 K2 n X T T w1) := by
  cases hk : KindOf kd with
  | none =>
    refine ⟨1, K, h.q fun v hq => (pdTurn_no hq hk).mono ?_, fun w5 h5 => (r9Turn_no hk).mono ?_⟩
    · rintro e w1 ⟨he, rfl⟩
      exact ⟨he, v, hq, .of_below (Below.refl _ _)⟩
    · rintro e w1 ⟨he, rfl⟩
      exact ⟨he, h5⟩
  | some K2 =>
    refine ⟨0, K2, h.q fun v hq => ?_, fun w5 h5 => ?_⟩
    · have := pdTurn_any hq hk
      rw [Nat.max_eq_left hn] at this
      exact this
    · obtain ⟨c1, fz, hm, -⟩ := h5.turned (K2 := K2)
      refine (r9Turn_any hk c1 fz).mono ?_
      rintro e w1 ⟨he, rfl⟩
      exact ⟨he, hm⟩

set_option maxHeartbeats 4000000 in
set_option maxRecDepth 100000 in
theorem play_turn {w wr : World} {pb dp rb K n : Nat} {T : List M} (h : Mixed w pb dp rb K K n (fun _ => False) T T wr) (hn : 16384 ≤ n) (nn : Int) (m : M) (what : Int) (hw0 : ¬ what = 0) (hw1 : ¬ what = 1) (hw2 : ¬ what = 2) (hw3 : ¬ what = 3) :
    Calls Tryz.prog 7 #[.pointer (some ⟨pb, 0, none⟩), .pointer (some ⟨dp, 0, none⟩), .agg #[.int .i64 what, .int .i64 nn, .int .i64 m.k.t, .int .i64 m.k.f, .int .i64 m.k.s, .int .i64 m.to, .int .i64 m.v, .int .i64 m.u, .bool m.anti]] wr fun e w' => e = .returned (.bool true) ∧ Hid (∃ K' T', Mixed w pb dp rb K' K' (n + 1) (fun _ => False) T' T' w') := by
  have mixed := mixed
  have hmx := h.others (X' := fun k => wr.heap.size ≤ k ∧ k < wr.heap.size + 3) (playW_below wr what nn m) (fun k hk => ⟨hk.1, by rw [playW_size]; exact hk.2⟩)
  have hpw : Hid (playW wr what nn m = ((wr.alloc (.cells #[.int .i64 what, .int .i64 nn, .int .i64 m.k.t, .int .i64 m.k.f, .int .i64 m.k.s, .int .i64 m.to, .int .i64 m.v, .int .i64 m.u, .bool m.anti] 36)).alloc (.cells #[.int .i64 0, .int .i64 0, .int .i64 0, .int .i64 0, .int .i64 0, .int .i64 0, .bool false] 34)).alloc (.cells #[.int .i64 0, .int .i64 0, .int .i64 0, .int .i64 0, .int .i64 0, .int .i64 0, .bool false] 34)) := rfl
  have hop := Lib.hid (playW_op wr what nn m)
  generalize playW wr what nn m = W3 at hmx hpw hop
  obtain ⟨c, K2, hq, hd⟩ := (hmx.below (Below.refl _ W3).drew).turn hn nn
  have hd2 : Hid (∀ w5, Mixed w pb dp rb K2 K n (fun k => wr.heap.size ≤ k ∧ k < wr.heap.size + 3) T T w5 → Calls Tryz.prog 25 #[.pointer (some ⟨dp, 0, none⟩), .int .i64 nn] w5 fun e w6 => e = .returned (.int .i64 c) ∧ Hid (∃ K' T', Mixed w pb dp rb K' K' (n + 1) (fun _ => False) T' T' w6)) := fun w5 h5 =>
    (hd w5 h5).mono fun e w6 hh => ⟨hh.1, K2, T, (hh.2.out.drop).mono (Nat.le_succ n)⟩
  have hop5 : Hid (∀ w5, KeptOff (fun k => ¬ (wr.heap.size ≤ k ∧ k < wr.heap.size + 3)) W3.drew w5 → OpAt w5 wr.heap.size what nn m) := fun w5 hk => ((hop.out.kept (S := fun _ => False) (.of_below (Below.refl _ W3).drew) (fun e => e)).kept hk (fun e => e ⟨Nat.le_refl _, by omega⟩)).at
  obtain ⟨y0, y1, -⟩ := hop.out.at
  have hq' := Lib.hid hq
  clear h hmx hop hq hd
  go_enter Tryz.func7, Tryz.ntmps7
  go_upto_region 5 with (fail)
  rw [← hpw.out]
  go_upto_region 6 with (fail)
  go_region_with (first
    | (go_at_call 14; (with_reducible refine hq'.out.mono ?_); rintro e w5 ⟨rfl, h5⟩; have h5x := hop5.out w5 h5.out.2; obtain ⟨-, z1, -⟩ := h5x; have hd5 := hd2.out w5 h5.out.1)
    | (go_at_call 25; (with_reducible refine hd5.mono ?_); rintro e w6 ⟨rfl, h6⟩))
  all_goals
    go_wp2
    go_ret
    exact ⟨rfl, h6⟩

theorem play_any {w wr : World} {pb dp rb K n : Nat} {T : List M} (h : Mixed w pb dp rb K K n (fun _ => False) T T wr) (nn : Int) (m : M) (hm : m.fits) (what : Int) (hn : 16384 ≤ n) (hn2 : n < maxLen) :
    Calls Tryz.prog 7 #[.pointer (some ⟨pb, 0, none⟩), .pointer (some ⟨dp, 0, none⟩), .agg #[.int .i64 what, .int .i64 nn, .int .i64 m.k.t, .int .i64 m.k.f, .int .i64 m.k.s, .int .i64 m.to, .int .i64 m.v, .int .i64 m.u, .bool m.anti]] wr fun e w' => e = .returned (.bool true) ∧ Hid (∃ K' T', Mixed w pb dp rb K' K' (n + 1) (fun _ => False) T' T' w') := by
  by_cases h0 : what = 0
  · subst h0; exact play_push h nn m hm hn2
  · by_cases h1 : what = 1
    · subst h1; exact play_first h nn m
    · by_cases h2 : what = 2
      · subst h2; exact play_pop h nn m
      · by_cases h3 : what = 3
        · subst h3; exact play_cut h nn m hm
        · exact play_turn h hn nn m what h0 h1 h2 h3
end Go.Proofs.YtjlbkdghlijoeaaGreat
namespace Go.Proofs.YtjlbkdghlijoeaaGreat
open Go.ChangeShapes Go.WideShapes Go.ChangeAt Go.Shelf Go.RowKit Go.Lib Go.Sort Go.Deep Go.Maps
set_option linter.unusedVariables false

set_option maxRecDepth 100000 in
theorem cellsO : Tryz.prog.cellsOf 36 = 9 := by kernel_rfl
theorem bytesO : Tryz.prog.bytesOf 36 = 72 := by kernel_rfl
/-- A call that lies in memory. -/
def OpC (w : World) (b o : Nat) (what nn : Int) (m : M) : Prop := w.cell? ⟨b, o, none⟩ = some (.int .i64 what) ∧ w.cell? ⟨b, o + 1, none⟩ = some (.int .i64 nn) ∧ w.cell? ⟨b, o + 2, none⟩ = some (.int .i64 m.k.t) ∧ w.cell? ⟨b, o + 3, none⟩ = some (.int .i64 m.k.f) ∧ w.cell? ⟨b, o + 4, none⟩ = some (.int .i64 m.k.s) ∧ w.cell? ⟨b, o + 5, none⟩ = some (.int .i64 m.to) ∧ w.cell? ⟨b, o + 6, none⟩ = some (.int .i64 m.v) ∧ w.cell? ⟨b, o + 7, none⟩ = some (.int .i64 m.u) ∧ w.cell? ⟨b, o + 8, none⟩ = some (.bool m.anti)
/-- A script that can be read. -/
def Ops (w : World) (a : Option Addr) (len cap : Nat) : Prop := len ≤ cap ∧ cap ≤ maxLen ∧ len * 72 ≤ 140737488351232 ∧ (len = 0 ∨ ∃ b off, a = some ⟨b, off, none⟩ ∧ b < w.heap.size ∧ ∀ i, i < len → ∃ (what nn : Int) (m : M), m.fits ∧ OpC w b (off + i * 9) what nn m)
section
variable {H : Type} {enc : TypeId × Value → H} {w : World} {base : Nat} {spare : Nat → Bool} {held : Bool}
set_option maxRecDepth 100000 in
theorem openO {fuel : Nat} {cs : List Value} {x : DataW H × List MemPlace} (h : DataW.trod enc Tryz.prog w base spare held fuel 36 cs = some x) :
    ∃ (what nn : Int) (m : M), cs = .int .i64 what :: .int .i64 nn :: m.cells.toList ∧ m.fits := by
  obtain ⟨xs, n, _, _, hlen, hxl, hg⟩ := DataW.trod_struct Tryz.underlying36 h
  have hc : cs.length = 9 := hlen.trans cellsO
  match cs, hc with
  | [c0, c1, c2, c3, c4, c5, c6, c7, c8], _ =>
    match xs, hxl with
    | [y0, y1, y2], _ =>
      have g0 := hg 0 _ rfl
      have g1 := hg 1 _ rfl
      have g2 := hg 2 _ rfl
      simp [cells3, cellsM] at g0 g1 g2
      obtain ⟨n0, h0, _, w0⟩ := DataW.trod_int Tryz.underlying3 g0
      obtain ⟨n1, h1, _, w1⟩ := DataW.trod_int Tryz.underlying3 g1
      obtain ⟨m, hm, wm⟩ := openM g2
      simp only [List.cons.injEq, and_true] at h0 h1
      subst h0
      subst h1
      exact ⟨n0, n1, m, by rw [← hm], wm⟩
theorem openOs_len {ts : List TypeId} {ds : List (DataW H)} (h : (DataW.weightsEach Tryz.prog ts ds).all (· ≤ reachBytes) = true) {j : Nat} {d : DataW H} {a : Option Addr} {len cap : Nat} {p : List MemPlace} (ht : ts[j]? = some 22) (hd : ds[j]? = some d)
    (hk : DataW.Trod enc Tryz.prog w base spare held 22 (.slice a len cap) d p) : len * 72 ≤ 140737488351232 := by
  obtain ⟨fuel, hf⟩ := hk
  simp [Value.cells] at hf
  rcases open_slice Tryz.underlying22 hf with ⟨hcs, _⟩ | ⟨y, l, c, m, n, D, Pl, hcs, _, hl, hm, hmm, hx, hi⟩
  · simp at hcs
    omega
  · simp at hcs
    obtain ⟨rfl, rfl, rfl⟩ := hcs
    simp only [Prod.mk.injEq] at hx
    have := sized_slice h ht (hd.trans (by rw [hx.1])) Tryz.underlying22
    rw [bytesO] at this
    simp only [List.length_map, List.length_range, reachBytes] at this
    omega
set_option maxRecDepth 100000 in
theorem openOs {fuel : Nat} {a : Option Addr} {len cap : Nat} {x : DataW H × List MemPlace} (h : DataW.trod enc Tryz.prog w base spare held fuel 22 [.slice a len cap] = some x) (hlt : ∀ y ∈ x.2, y.block < w.heap.size) (hr : len * 72 ≤ 140737488351232) : Ops w a len cap := by
  rcases open_slice Tryz.underlying22 h with ⟨hcs, _⟩ | ⟨y, l, c, m, n, D, Pl, hcs, _, hl, hm, hmm, hx, hi⟩
  · simp at hcs
    obtain ⟨rfl, rfl, rfl⟩ := hcs
    exact ⟨by omega, by unfold maxLen; omega, hr, .inl rfl⟩
  · simp at hcs
    obtain ⟨rfl, rfl, rfl⟩ := hcs
    have hml : len ≤ m := by rw [hmm]; split <;> omega
    have hM : ∀ i, i < len → ∃ (what nn : Int) (mm : M), mm.fits ∧ ∀ j, j < 9 → w.cell? ((y.add (i * 9)).add j) = (Value.int .i64 what :: Value.int .i64 nn :: mm.cells.toList)[j]? := by
      intro i hilt
      obtain ⟨cs', hc, ht⟩ := hi i (by omega)
      rw [cellsO] at hc
      obtain ⟨what, nn, mm, rfl, wm⟩ := openO ht
      obtain ⟨_, _, hat⟩ := World.cells?_some hc
      exact ⟨what, nn, mm, wm, hat⟩
    refine ⟨hl, hm, hr, ?_⟩
    by_cases h0 : len = 0
    · exact .inl h0
    · obtain ⟨b, off, spot⟩ := y
      have hspot : spot = none := by
        obtain ⟨what, nn, mm, _, hh⟩ := hM 0 (by omega)
        have := hh 0 (by omega)
        simp at this
        simpa [Addr.add] using World.cell?_spot this
      subst hspot
      have hbW : b < w.heap.size := by
        refine hlt (.cell b off) ?_
        rw [hx, cellsO]
        exact List.mem_append_left _ (MemPlace.mem_row.2 ⟨0, by omega, by simp⟩)
      refine .inr ⟨b, off, rfl, hbW, fun i hilt => ?_⟩
      obtain ⟨what, nn, mm, hf, hc⟩ := hM i hilt
      simp only [add_plain] at hc
      exact ⟨what, nn, mm, hf, hc 0 (by omega), hc 1 (by omega), hc 2 (by omega), hc 3 (by omega), hc 4 (by omega), hc 5 (by omega), hc 6 (by omega), hc 7 (by omega), hc 8 (by omega)⟩
end

/-- What is looked at behind a play: three cells of the document's, what the program's Len, Kind, All come to. -/
def Looked (dp rb K : Nat) (a : Option Addr) (N cap : Nat) (W : World) : Prop := W.cell? ⟨dp, 0, none⟩ = some (.pointer (some ⟨rb, 0, none⟩)) ∧ W.cell? ⟨dp, 1, none⟩ = some (.int .i64 K) ∧ W.cell? ⟨rb, 0, none⟩ = some (.slice a N cap)
theorem Mixed.looks {w w5 : World} {pb dp rb K n : Nat} {X : Nat → Prop} {T : List M} (h : Mixed w pb dp rb K K n X T T w5) :
    ∃ (a : Option Addr) (cap : Nat), Looked dp rb K a T.length cap w5 ∧ (Calls Tryz.prog 8 #[.pointer (some ⟨pb, 0, none⟩)] w5 fun e w' => e = .returned (.int .i64 T.length) ∧ w5 = w') ∧ (Calls Tryz.prog 9 #[.pointer (some ⟨pb, 0, none⟩)] w5 fun e w' => e = .returned (.int .i64 K) ∧ w5 = w') ∧
      Calls Tryz.prog 11 #[.pointer (some ⟨pb, 0, none⟩)] w5 fun e w7 => ∃ (a1 : Option Addr) (c1 : Nat), e = .returned (.slice a1 T.length c1) ∧ Looked dp rb K a T.length cap w7 ∧ Hid (Below w5.heap.size w5 w7 ∧
        Calls Tryz.prog 10 #[.slice a1 T.length c1, .slice a T.length cap] w7 fun e w8 => e = .returned (.bool true) ∧ Hid (Below w7.heap.size w7 w8 ∧ Looked dp rb K a T.length cap w8)) := by
  obtain ⟨S, a, cap, h1, h2, h3, h4, h5, h6, h7, h9, h10, h8⟩ := h
  have key : ∀ w', Below w5.heap.size w5 w' → Looked dp rb K a T.length cap w' := fun w' hb => ⟨((hb.cell (p := ⟨dp, 0, none⟩) h10.lt).trans h10.c0), ((hb.cell (p := ⟨dp, 1, none⟩) h10.lt).trans h10.c1), (h2.below hb).c0⟩
  refine ⟨a, cap, key _ (Below.refl _ _), pdLen_any h1, pdKind_any h1, (pdAll_any h1).mono ?_⟩
  rintro e w7 ⟨a1, c1, he, hM⟩
  obtain ⟨hM1, hb, _⟩ := hM.out
  refine ⟨a1, c1, he, key _ hb, hb, (same_eq hM1 (h2.below hb).2).mono ?_⟩
  rintro e w8 ⟨he8, hr8⟩
  exact ⟨he8, hr8.below, key _ (hb.trans (hr8.below.mono hb.size))⟩
end Go.Proofs.YtjlbkdghlijoeaaGreat
