/-
  The law of the messages at the beginning.
-/
import Derived.Test.YtofkfajcibdneaaDoorNR
namespace Go.Proofs.YtofkfajcibdneaaDoor
open Go.ChangeShapes Go.WideShapes Go.ChangeAt Go.Shelf Go.RowKit Go.Lib Go.Sort Go.Deep
set_option linter.unusedVariables false
set_option linter.unusedSimpArgs false
set_option maxRecDepth 4000

theorem msgC_len (s : Stt) (i : Nat) : (msgC s i).length = 7 := rfl
theorem msgsU_len (ss : List Stt) : ∀ n, (msgsU ss n).length = n * 7
  | 0 => rfl
  | n + 1 => by rw [msgsU, List.length_append, msgsU_len ss n, msgC_len]; omega
theorem msgsU_get (ss : List Stt) {i j : Nat} (hj : j < 7) : ∀ n, i < n → (msgsU ss n)[i * 7 + j]? = (msgC (ss.getD i default) i)[j]?
  | 0, h => by omega
  | n + 1, h => by
    rw [msgsU]
    by_cases e : i = n
    · subst e
      rw [List.getElem?_append_right (by rw [msgsU_len]; omega), msgsU_len]
      congr 1
      omega
    · rw [List.getElem?_append_left (by rw [msgsU_len]; omega)]
      exact msgsU_get ss hj n (by omega)
/-- The seven cells of message i. -/
def StMsgAt (w : World) (g o : Nat) (s : Stt) (i : Nat) : Prop := (w.cell? ⟨g, o, none⟩ = some (.int .i64 s.t) ∧ w.cell? ⟨g, o + 1, none⟩ = some (.int .i64 (-1)) ∧ w.cell? ⟨g, o + 2, none⟩ = some (.int .i64 (i : Nat))) ∧ w.cell? ⟨g, o + 3, none⟩ = some (.int .i64 s.dst) ∧ w.cell? ⟨g, o + 4, none⟩ = some (.int .i64 s.v) ∧ w.cell? ⟨g, o + 5, none⟩ = some (.int .i64 (i : Nat)) ∧ w.cell? ⟨g, o + 6, none⟩ = some (.bool false)
theorem stMsgAt_of {w : World} {ss : List Stt} {g off n cap i : Nat} (h : RowIn w 50 7 g off n cap (msgsU ss n)) (hi : i < n) : StMsgAt w g (off + i * 7) (ss.getD i default) i := by
  have hc : ∀ j u, j < 7 → (msgC (ss.getD i default) i)[j]? = some u → w.cell? ⟨g, off + i * 7 + j, none⟩ = some u := fun j u hj hu => by
    rw [Nat.add_assoc]
    exact h.cell (by rw [msgsU_get ss hj n hi]; exact hu)
  exact ⟨⟨hc 0 _ (by omega) rfl, hc 1 _ (by omega) rfl, hc 2 _ (by omega) rfl⟩, hc 3 _ (by omega) rfl, hc 4 _ (by omega) rfl, hc 5 _ (by omega) rfl, hc 6 _ (by omega) rfl⟩
set_option maxHeartbeats 8000000 in
set_option maxRecDepth 100000 in
theorem lawModelStarts {w : World} {v : Mv} {M : Md} (h : Mds w v M) (hL : Laid13 w) (hbig : v.sl ≤ 1099511627776) : Calls Tryd.prog 5 #[v.val M] w fun e w' => e = .returned (.bool true) ∧ Below w.heap.size w w' := by
  have mixed := mixed
  have hb1 : Hid (Below w.heap.size w (w.alloc (.cells (v.cells M) 27))) := (Below.refl _ w).alloc (Nat.le_refl _) _
  have hbx := Lib.hid h.box
  have hL1 := Lib.hid (hL.below hb1.out)
  have hsl : Hid (M.starts.length = v.sl) := h.2.2.1.1
  have hbig' := Lib.hid hbig
  clear h hL
  simp only [Mv.val, Mv.cells] at hb1 hbx hL1 ⊢
  go_enter Tryd.func5, Tryd.ntmps5
  go_upto_region 1 with fail
  generalize w.heap.size = B at hbx ⊢
  generalize w.alloc (.cells #[.slice v.pa v.pl v.pc, .slice v.la v.ll v.lc, .slice v.sa v.sl v.sc, .int .u64 M.seed, .int .i64 M.last, .int .i64 M.bud] 27) = W at *
  have d0 := hbx.out.c0
  have d1 := hbx.out.c1
  have d2 := hbx.out.c2
  have d3 := hbx.out.c3
  have d4 := hbx.out.c4
  have d5 := hbx.out.c5
  have k1 := Lib.hid (mdStarts_any hbx.out.2 hbig'.out)
  simp only [Mv.val, Mv.cells] at k1
  go_upto_region 2 with (go_at_call 14; refine k1.out.mono ?_; rintro e w2 ⟨u1, rfl, hr1⟩)
  have hbx2 := Lib.hid (hbx.out.below hr1.out.1)
  clear d0 d1 d2 d3 d4 d5 k1
  have d0 := hbx2.out.c0
  have d1 := hbx2.out.c1
  have d2 := hbx2.out.c2
  have d3 := hbx2.out.c3
  have d4 := hbx2.out.c4
  have d5 := hbx2.out.c5
  have k2 := Lib.hid (r13Starts_any hbx2.out.2 hbig'.out)
  simp only [Mv.val, Mv.cells] at k2
  go_upto_region 3 with (go_at_call 15; refine k2.out.mono ?_; rintro e w3 ⟨u2, rfl, hr2⟩)
  clear d0 d1 d2 d3 d4 d5 k2
  have hb23 : Hid (Below w2.heap.size w2 w3) := by obtain ⟨B2, hy⟩ := hr2.out; exact hy.b
  have hq1 : Hid (RowAt w3 50 7 u1 v.sl (msgsU M.starts v.sl)) := by
    have := hr1.out.2.1
    rw [hsl.out] at this
    exact Lib.hid (this.kept (S := fun _ => False) (.of_below hb23.out) (fun _ _ e => e))
  have hq2 : Hid (RowAt w3 50 7 u2 v.sl (msgsU M.starts v.sl)) := by
    obtain ⟨B2, hy⟩ := hr2.out
    have := hy.row
    rw [hsl.out] at this
    exact this
  have hb3 : Hid (Below w.heap.size w w3) := by
    have h1 := hb1.out.trans (hr1.out.1.mono hb1.out.size)
    exact h1.trans (hb23.out.mono h1.size)
  have hL3 : Hid (Laid13 w3) := (hL1.out.below hr1.out.1).below hb23.out
  obtain ⟨a1, c1, hu1, hc1⟩ := hq1.out.shape
  obtain ⟨a2, c2, hu2, hc2⟩ := hq2.out.shape
  subst hu1 hu2
  clear hr1 hr2 hb1 hbx hbx2 hL1 hb23
  have hbg : v.sl ≤ 1099511627776 := hbig'.out
  go_wp2
  go_loopw [5] (fun s5 wr => ∃ i : Nat, i ≤ v.sl ∧ s5 = .int .i64 i ∧ Hid (Below w3.heap.size w3 wr)) (fun s5 _ => v.sl - (intOf s5).toNat)
  case atStart => exact ⟨0, Nat.zero_le _, rfl, Below.refl _ _⟩
  case round =>
    obtain ⟨i, hil, rfl, hbr⟩ := hrel
    by_cases hi : i < v.sl
    · have hiz : (i : Int) < (v.sl : Int) := by omega
      have hi' := Lib.hid hi
      have hwi : IntKind.i64.wrap ((i : Int) + 1) = (i : Int) + 1 := IntWalk.i64_in _ (by omega)
      obtain ⟨g1, o1, e1, f1, hR1⟩ := hq1.out.form (by omega)
      obtain ⟨g2, o2, e2, f2, hR2⟩ := hq2.out.form (by omega)
      simp only [Value.slice.injEq, true_and] at f1 f2
      obtain ⟨rfl, rfl⟩ := f1
      obtain ⟨rfl, rfl⟩ := f2
      have m1 : Hid (∀ z, StMsgAt (wide wr z) g1 (o1 + i * 7) (M.starts.getD i default) i) := Lib.hid (fun z => stMsgAt_of (hR1.kept (S := fun _ => False) (.of_below (hbr.out.trans ((wide_below wr z).mono hbr.out.size))) (fun e => e)) hi)
      have m2 : Hid (∀ z, StMsgAt (wide wr z) g2 (o2 + i * 7) (M.starts.getD i default) i) := Lib.hid (fun z => stMsgAt_of (hR2.kept (S := fun _ => False) (.of_below (hbr.out.trans ((wide_below wr z).mono hbr.out.size))) (fun e => e)) hi)
      generalize M.starts.getD i default = s at m1 m2
      obtain ⟨sd, st, sv⟩ := s
      unfold StMsgAt at m1 m2
      dsimp only at m1 m2
      have p0 := fun z => (m1.out z).1.1
      have p1 := fun z => (m1.out z).1.2.1
      have p2 := fun z => (m1.out z).1.2.2
      have p3 := fun z => (m1.out z).2.1
      have p4 := fun z => (m1.out z).2.2.1
      have p5 := fun z => (m1.out z).2.2.2.1
      have p6 := fun z => (m1.out z).2.2.2.2
      have q0 := fun z => (m2.out z).1.1
      have q1 := fun z => (m2.out z).1.2.1
      have q2 := fun z => (m2.out z).1.2.2
      have q3 := fun z => (m2.out z).2.1
      have q4 := fun z => (m2.out z).2.2.1
      have q5 := fun z => (m2.out z).2.2.2.1
      have q6 := fun z => (m2.out z).2.2.2.2
      clear m1 m2 hR1 hR2 hi
      go_upto_region 8 with fail
      refine wp_region_wide (by kernel_rfl) (by kernel_rfl) ?_
      repeat (first | go_big_quiet_step (fail) | quiet_step (fail))
      refine wpQuiet_nil ?_
      refine wide_all fun W5 hb5 => ?_
      have hb6 : Hid (Below w3.heap.size w3 W5) := hbr.out.trans (hb5.mono hbr.out.size)
      clear p0 p1 p2 p3 p4 p5 p6 q0 q1 q2 q3 q4 q5 q6 hb5 hbr
      go_wp2
      go_roundw
      case rel => (repeat apply Exists.intro); first | exact ⟨hi'.out, by go_num⟩ | exact ⟨hi'.out, by go_num, hb6⟩ | exact ⟨⟨hi'.out, by go_num, hb6⟩, rfl⟩
      case measure => have := hi'.out; simp [intOf]; omega
    · obtain rfl : i = v.sl := by omega
      have hiz : ¬ (v.sl : Int) < (v.sl : Int) := by omega
      have haw := Lib.hid (awake_any13 (hL3.out.below hbr.out))
      have hb7 := Lib.hid (hb3.out.trans (hbr.out.mono hb3.out.size))
      clear hi
      go_wp2_with (go_at_call 11; refine haw.out.mono ?_; rintro e w6 ⟨rfl, hb8⟩; have hb9 := Lib.hid (hb7.out.trans (hb8.mono hb7.out.size)); clear hb8)
      go_ret
      exact ⟨rfl, hb9.out⟩
end Go.Proofs.YtofkfajcibdneaaDoor
