/-
  What the laws of package vm share: a run's shape, the test that the program computes, two lists of sendings compared; and the law on checks.
-/
import Derived.Test.YtghbdpjegmdhbaaDoorVmO
namespace Go.Proofs.YtghbdpjegmdhbaaDoor
open Go.ChangeShapes Go.WideShapes Go.ChangeAt Go.RowKit Go.Sort
set_option linter.unusedVariables false
set_option maxRecDepth 4000

def resLen (n : Nat) : Res → Prop
  | .on m => m.r.length = n
  | .stop m => m.r.length = n
  | .fault _ => True
theorem stepP_len {W : Wd} {ev : M} {i : I} {m : Mc} {n : Nat} (h : m.r.length = n) : resLen n (stepP W ev i m) := by
  unfold stepP sendP
  repeat' split
  all_goals first | exact h | exact trivial | (simp only [resLen, Mc.put, List.length_set]; exact h)
theorem runP_len {W : Wd} {ev : M} {n : Nat} : ∀ (f : Nat) (m : Mc), m.r.length = n → resLen n (runP W ev f m)
  | 0, m, h => h
  | f + 1, m, h => by
    unfold runP
    split
    · have hs := stepP_len (W := W) (ev := ev) (i := W.prog.getD m.pc.toNat default) (m := { m with pc := m.pc + 1 }) (n := n) h
      cases hr : stepP W ev (W.prog.getD m.pc.toNat default) { m with pc := m.pc + 1 } with
      | on m' => rw [hr] at hs; exact runP_len f m' hs
      | stop m' => rw [hr] at hs; exact hs
      | fault e => exact trivial
    · exact h
theorem runW_len {W : Wd} {s : Sta} {ev : M} (hs : s.r.length = 8) : (runW W s ev).1.r.length = 8 := by
  unfold runW
  split
  · rfl
  · split
    · rfl
    · have := runP_len (W := W) (ev := ev) 4096 (firstP s) (n := 16) (by simp [firstP, hs])
      cases hr : runP W ev 4096 (firstP s) with
      | fault e => exact hs
      | on m => rw [hr] at this; simp only [resLen] at this; simp [endP, this]
      | stop m => rw [hr] at this; simp only [resLen] at this; simp [endP, this]
/-- What Run comes to, written out. -/
def RunL (w : World) (y0 y1 y2 y3 y4 y5 y6 y7 d n : Int) (o : List Ot) (k : Int) (e : Ending) (w' : World) : Prop :=
  ∃ a cap, e = .returned (.tuple #[.agg #[.int .i64 y0, .int .i64 y1, .int .i64 y2, .int .i64 y3, .int .i64 y4, .int .i64 y5, .int .i64 y6, .int .i64 y7, .int .i64 d, .int .i64 n], .slice a o.length cap, .int .i64 k]) ∧ Aside (Ots w' a o.length cap o ∧ Below w.heap.size w w')
theorem RunQ.lit {w : World} {y0 y1 y2 y3 y4 y5 y6 y7 d n : Int} {o : List Ot} {k : Int} {e : Ending} {w' : World} (h : RunQ w (⟨[y0, y1, y2, y3, y4, y5, y6, y7], d, n⟩, o, k) e w') : RunL w y0 y1 y2 y3 y4 y5 y6 y7 d n o k e w' := by
  obtain ⟨a, cap, h1, h2, h3⟩ := h
  exact ⟨a, cap, h1, h2, h3⟩
theorem vmRun_lit {w : World} {v : Wv} {W : Wd} {s : Sta} {ev : M} {eb : Addr} (hw : Wds w v W) (hE : ErrIs w eb) (hT : ErrT w) (hs : s.r.length = 8) (hsR : ∀ z ∈ s.r, In64 z) (hev : In64 ev.v) {y0 y1 y2 y3 y4 y5 y6 y7 d n : Int} {o : List Ot} {k : Int} (hr : runW W s ev = (⟨[y0, y1, y2, y3, y4, y5, y6, y7], d, n⟩, o, k)) :
    Calls Tryd.prog 11 #[v.val W, s.val, ev.val] w (RunL w y0 y1 y2 y3 y4 y5 y6 y7 d n o k) :=
  (hr ▸ vmRun_any hw hE hT hs hsR hev).mono fun e w' h => h.lit
theorem r5Run_lit {w : World} {v : Wv} {W : Wd} {s : Sta} {ev : M} (hw : Wds w v W) (hs : s.r.length = 8) (hsR : ∀ z ∈ s.r, In64 z) (hev : In64 ev.v) {y0 y1 y2 y3 y4 y5 y6 y7 d n : Int} {o : List Ot} {k : Int} (hr : runW W s ev = (⟨[y0, y1, y2, y3, y4, y5, y6, y7], d, n⟩, o, k)) :
    Calls Tryd.prog 12 #[v.val W, s.val, ev.val] w (RunL w y0 y1 y2 y3 y4 y5 y6 y7 d n o k) :=
  (hr ▸ r5Run_any hw hs hsR hev).mono fun e w' h => h.lit
theorem zero_in : ∀ z ∈ Sta.zero.r, In64 z := by
  intro z hz
  simp [Sta.zero] at hz
  subst hz
  unfold In64
  omega
theorem awakeR : runW ⟨[⟨1, 0, 7, 0⟩], 0, [], 0⟩ Sta.zero ⟨⟨0, 0, 0⟩, 0, 0, 0, false⟩ = (⟨[7, 0, 0, 0, 0, 0, 0, 0], 0, 0⟩, [], 0) := by decide +kernel
set_option maxHeartbeats 2000000 in
theorem awake5_any {w : World} {eb : Addr} (hE : ErrIs w eb) (hT : ErrT w) : Calls Tryd.prog 14 #[] w fun e w' => e = .returned (.bool true) ∧ Below w.heap.size w w' := by
  have hA : Below w.heap.size w (w.alloc (.cells #[.int .i64 1, .int .i64 0, .int .i64 7, .int .i64 0] 56)) := (Below.refl _ w).alloc (Nat.le_refl _) _
  have hI := InsAt.mk w 1 0 7 0
  have hW : Wds (w.alloc (.cells #[.int .i64 1, .int .i64 0, .int .i64 7, .int .i64 0] 56)) ⟨some ⟨w.heap.size, 0, none⟩, 1, 1, none, 0, 0⟩ ⟨[⟨1, 0, 7, 0⟩], 0, [], 0⟩ := by
    refine ⟨⟨rfl, Nat.le_refl _, by show 1 ≤ maxLen; unfold maxLen; omega, ?_, .inr ⟨w.heap.size, 0, rfl, fun k hk => ?_⟩⟩, ⟨rfl, Nat.le_refl _, by show 0 ≤ maxLen; unfold maxLen; omega, .inl rfl⟩, by show 0 < _; omega, by decide⟩
    · intro i hi
      simp only [List.mem_cons, List.not_mem_nil, or_false] at hi
      subst hi
      exact ⟨by decide, by decide, by decide, by decide⟩
    · have hk' : k < 1 := hk
      obtain rfl : k = 0 := by omega
      exact hI
  have hcall := vmRun_lit hW (hE.below hA) (hT.below hA) (s := Sta.zero) (ev := ⟨⟨0, 0, 0⟩, 0, 0, 0, false⟩) rfl zero_in (by unfold In64; decide) awakeR
  simp only [Wv.val, Sta.val, Sta.cells, Sta.zero, M.val, List.map_cons, List.map_nil, List.cons_append, List.nil_append] at hcall
  have hA' := Lib.hid hA
  clear hW hI hA hE hT
  go_enter Tryd.func14, Tryd.ntmps14
  go_wp2_with fail
  refine hcall.mono ?_
  rintro e w1 ⟨a, cap, rfl, -, hb⟩
  have hb1 := Lib.hid (hA'.out.trans (hb.mono (by simp)))
  clear hcall hb
  go_wp2
  go_ret
  exact ⟨rfl, hb1.out.alloc hb1.out.size _⟩
set_option maxHeartbeats 4000000 in
theorem lawVmChecks {w : World} {v : Wv} {W : Wd} {eb : Addr} (hE : ErrIs w eb) (hT : ErrT w) (hW : Wds w v W) :
    Calls Tryd.prog 4 #[v.val W] w fun e w' => e = .returned (.bool true) ∧ Below w.heap.size w w' := by
  have hA : Below w.heap.size w (w.alloc (.cells #[.slice v.pa v.pl v.pc, .int .i64 W.self, .slice v.la v.ll v.lc, .int .u64 W.seed] 26)) := (Below.refl _ w).alloc (Nat.le_refl _) _
  have hz := heap_alloc_new w (.cells #[.slice v.pa v.pl v.pc, .int .i64 W.self, .slice v.la v.ll v.lc, .int .u64 W.seed] 26)
  generalize hw1 : w.alloc (.cells #[.slice v.pa v.pl v.pc, .int .i64 W.self, .slice v.la v.ll v.lc, .int .u64 W.seed] 26) = W1 at hA hz
  have hwb : ∀ p, Below w.heap.size w (wide W1 p) := fun p => hA.trans ((wide_below W1 p).mono hA.size)
  have hc1 : ∀ p, Calls Tryd.prog 15 #[v.val W] (wide W1 p) fun e w' => e = .returned (.int .i64 (checkW W)) ∧ Below (wide W1 p).heap.size (wide W1 p) w' := fun p => (vmCheck_any (hW.below (hwb p)) (hE.below (hwb p))).mono fun e w' h => ⟨h.1, h.2.below⟩
  have hc2 : ∀ p, Calls Tryd.prog 16 #[v.val W] (wide W1 p) fun e w' => e = .returned (.int .i64 (checkW W)) ∧ Below (wide W1 p).heap.size (wide W1 p) w' := fun p => (r5Check_any (hW.below (hwb p))).mono fun e w' h => ⟨h.1, h.2.below⟩
  have hc3 : ∀ p, Calls Tryd.prog 14 #[] (wide W1 p) fun e w' => e = .returned (.bool true) ∧ Below (wide W1 p).heap.size (wide W1 p) w' := fun p => awake5_any (hE.below (hwb p)) (hT.below (hwb p))
  obtain ⟨a0, a1, a2, a3⟩ := row4 hz
  have hlt : w.heap.size < W1.heap.size := (Array.getElem?_eq_some_iff.1 hz).1
  have b0 : ∀ p, (wide W1 p).cell? ⟨w.heap.size, 0, none⟩ = _ := fun p => wide_cell p hlt a0
  have b1 : ∀ p, (wide W1 p).cell? ⟨w.heap.size, 1, none⟩ = _ := fun p => wide_cell p hlt a1
  have b2 : ∀ p, (wide W1 p).cell? ⟨w.heap.size, 2, none⟩ = _ := fun p => wide_cell p hlt a2
  have b3 : ∀ p, (wide W1 p).cell? ⟨w.heap.size, 3, none⟩ = _ := fun p => wide_cell p hlt a3
  generalize checkW W = z at hc1 hc2
  simp only [Wv.val] at hc1 hc2 ⊢
  have hA' := Lib.hid hA
  have hw1' := Lib.hid hw1
  clear hW hE hT hz a0 a1 a2 a3 hwb hA hw1
  go_enter Tryd.func4, Tryd.ntmps4
  go_upto_region 1 with (fail)
  rw [hw1'.out]
  refine wp_region_wide (by kernel_rfl) (by kernel_rfl) ?_
  repeat (first | go_big_quiet_step (first | exact Calls.wide_of (hc1 _) | exact Calls.wide_of (hc2 _) | exact Calls.wide_of (hc3 _)) | quiet_step (first | exact Calls.wide_of (hc1 _) | exact Calls.wide_of (hc2 _) | exact Calls.wide_of (hc3 _)))
  refine wpQuiet_nil ?_
  refine wide_all fun W2 hb2 => ?_
  have hB := Lib.hid (hA'.out.trans (hb2.mono hA'.out.size))
  clear hc1 hc2 hc3 b0 b1 b2 b3 hb2
  go_wp2
  go_ret
  exact ⟨rfl, hB.out⟩
end Go.Proofs.YtghbdpjegmdhbaaDoor
