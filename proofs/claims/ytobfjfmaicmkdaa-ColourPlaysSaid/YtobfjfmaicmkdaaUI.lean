
/-
  The document's own token: NewToken, Visit.
-/
import Derived.Test.YtobfjfmaicmkdaaUH
namespace Go.Proofs.Ytobfjfmaicmkdaa
open Go.ChangeShapes Go.WideShapes Go.ChangeAt Go.Shelf Go.RowKit Go.Lib Go.Sort Go.Deep Col
set_option linter.unusedVariables false
set_option maxRecDepth 4000
set_option linter.unusedSimpArgs false

def DTkAt (w : World) (b : Nat) (X : Nat → Prop) (k : Tk) : Prop := w.heap[b]? = some (.cells #[.int .i64 k.n, .int .i64 k.at', .bool k.cnt, .int .i64 k.sum, .int .i64 k.least] 45 (0, 0)) ∧ X b ∧ ∀ i, X i → i < w.heap.size
section
variable {w w' wr : World} {b tb kb g : Nat} {S X S0 X0 Y : Nat → Prop} {k k' : Tk} {t : Ta}
theorem DTkAt.kept (h : DTkAt w b X k) (hk : KeptOff Y w w') (hn : ∀ i, X i → ¬ Y i) : DTkAt w' b X k :=
  ⟨(hk.block b (h.2.2 b h.2.1) (hn b h.2.1)).trans h.1, h.2.1, fun i e => Nat.lt_of_lt_of_le (h.2.2 i e) hk.size⟩
theorem DTkAt.below (h : DTkAt w b X k) (hb : Below w.heap.size w w') : DTkAt w' b X k := h.kept (Y := fun _ => False) (.of_below hb) (fun _ _ e => e)
theorem DTkAt.lt (h : DTkAt w b X k) {i : Nat} (hk : X i) : i < w.heap.size := h.2.2 i hk
theorem DTkAt.c0 (h : DTkAt w b X k) : w.cell? ⟨b, 0, none⟩ = some (.int .i64 k.n) := cell_of_block h.1 rfl
theorem DTkAt.c1 (h : DTkAt w b X k) : w.cell? ⟨b, 1, none⟩ = some (.int .i64 k.at') := cell_of_block h.1 rfl
theorem DTkAt.c2 (h : DTkAt w b X k) : w.cell? ⟨b, 2, none⟩ = some (.bool k.cnt) := cell_of_block h.1 rfl
theorem DTkAt.c3 (h : DTkAt w b X k) : w.cell? ⟨b, 3, none⟩ = some (.int .i64 k.sum) := cell_of_block h.1 rfl
theorem DTkAt.c4 (h : DTkAt w b X k) : w.cell? ⟨b, 4, none⟩ = some (.int .i64 k.least) := cell_of_block h.1 rfl
theorem DTkAt.f (h : DTkAt w b X k) (o : Nat) : w.frozen? ⟨b, o, none⟩ = false := frozen_of_cells h.1
/-- A visit that is under way. -/
def VS (w : World) (S0 X0 : Nat → Prop) (kb tb : Nat) (k : Tk) (t : Ta) (wr : World) : Prop := ∃ S X, DTkAt wr kb X k ∧ DTaAt wr tb S t ∧ VStep w wr S0 X0 S X
theorem VS.start (hk : DTkAt w kb X k) (ht : DTaAt w tb S t) (hd : ∀ i, X i → ¬ S i) : VS w S X kb tb k t w := ⟨S, X, hk, ht, KeptOff.refl _ _, fun k e => .inl e, fun k e => .inl e, hd⟩
theorem VS.below (h : VS w S0 X0 kb tb k t wr) (hb : Below wr.heap.size wr w') : VS w S0 X0 kb tb k t w' := by
  obtain ⟨S, X, h1, h2, h3, h4, h5, h6⟩ := h
  exact ⟨S, X, h1.below hb, h2.below hb, h3.then_new (S' := fun _ => False) (.of_below hb) (fun k _ e => e.elim), h4, h5, h6⟩
theorem VS.drew (h : VS w S0 X0 kb tb k t wr) : VS w S0 X0 kb tb k t wr.drew := h.below (Below.refl _ wr).drew
theorem VS.setK (h : VS w S0 X0 kb tb k t wr) (o : Nat) (v : Value) (e : (#[.int .i64 k.n, .int .i64 k.at', .bool k.cnt, .int .i64 k.sum, .int .i64 k.least] : Array Value).setIfInBounds o v = #[.int .i64 k'.n, .int .i64 k'.at', .bool k'.cnt, .int .i64 k'.sum, .int .i64 k'.least]) : VS w S0 X0 kb tb k' t (wr.setCell ⟨kb, o, none⟩ v) := by
  obtain ⟨S, X, h1, h2, h3, h4, h5, h6⟩ := h
  have hk := KeptOff.set wr ⟨kb, o, none⟩ v
  refine ⟨S, X, ⟨?_, h1.2.1, fun i e => Nat.lt_of_lt_of_le (h1.2.2 i e) hk.size⟩, h2.kept hk (fun k e e2 => h6 kb h1.2.1 (by rw [show k = kb from e2] at e; exact e)), h3.then_new hk (fun k hk e => by
    rw [show k = kb from e] at hk ⊢
    exact (h5 kb h1.2.1).elim .inr (fun e => by omega)), h4, h5, h6⟩
  have := Go.heap_setCell_same wr kb o _ _ v h1.1
  rw [e] at this
  exact this
theorem VS.flip {S : Nat → Prop} (h1 : DTkAt wr kb X k) (h2 : DTaAt wr tb S t) (h3 : VStep w wr S0 X0 S X) (hf : ∃ S', DTaAt w' tb S' t.flip ∧ CStep wr w' S S') : VS w S0 X0 kb tb k t.flip w' := by
  obtain ⟨h3, h4, h5, h6⟩ := h3
  obtain ⟨S', h7, h8, h9⟩ := hf
  refine ⟨S', X, h1.kept h8 (fun i e e2 => h6 i e e2), h7, h3.then_new h8 (fun k hk e => (h4 k e).elim .inl (fun e => by omega)), fun k e => (h9 k e).elim (h4 k) (fun e => .inr (Nat.le_trans h3.size e)), h5, fun k e e2 => (h9 k e2).elim (h6 k e) (fun e3 => by have := h1.lt e; omega)⟩
theorem VS.callFlip (h : VS w S0 X0 kb tb k t wr) : Calls Try.prog 16 #[.pointer (some ⟨tb, 0, none⟩)] wr fun e w' => e = .returned (.tuple #[]) ∧ Hid (VS w S0 X0 kb tb k t.flip w') := by
  obtain ⟨S, X, h1, h2, h3⟩ := h
  refine (rcFlip_any h2).mono ?_
  rintro e w' ⟨he, hq⟩
  exact ⟨he, VS.flip h1 h2 h3 hq.out⟩
/-- What a visit reads. -/
theorem VS.tok (h : VS w S0 X0 kb tb k t wr) : ∃ X, DTkAt wr kb X k := let ⟨S, X, h1, _⟩ := h; ⟨X, h1⟩
theorem VS.tal (h : VS w S0 X0 kb tb k t wr) : ∃ S, DTaAt wr tb S t := let ⟨S, X, _, h1, _⟩ := h; ⟨S, h1⟩
theorem rcToken_yes (n : Int) (h : 1 ≤ n ∧ n ≤ 16) (w : World) : Calls Try.prog 8 #[.int .i64 n] w fun e w' => ∃ b X, e = .returned (.tuple #[.pointer (some ⟨b, 0, none⟩), .int .i64 0]) ∧ Hid (DTkAt w' b X (Tk.new n.toNat) ∧ (∀ k, X k → w.heap.size ≤ k) ∧ Below w.heap.size w w') := by
  have d1 : ¬ n < 1 := by omega
  have d2 : ¬ 16 < n := by omega
  have hf : Hid (DTkAt (w.alloc (.cells #[.int .i64 n, .int .i64 0, .bool false, .int .i64 0, .int .i64 4611686018427387904] 45)) w.heap.size (fun k => k = w.heap.size) (Tk.new n.toNat) ∧ (∀ k, k = w.heap.size → w.heap.size ≤ k) ∧ Below w.heap.size w (w.alloc (.cells #[.int .i64 n, .int .i64 0, .bool false, .int .i64 0, .int .i64 4611686018427387904] 45))) := by
    refine ⟨⟨?_, rfl, fun i e => by subst e; simp⟩, fun k e => by omega, (Below.refl _ w).alloc (Nat.le_refl _) _⟩
    have := heap_alloc_new w (.cells #[.int .i64 n, .int .i64 0, .bool false, .int .i64 0, .int .i64 4611686018427387904] 45)
    rw [this]
    show _ = some (Obj.cells #[.int .i64 ((n.toNat : Nat) : Int), .int .i64 0, .bool false, .int .i64 0, .int .i64 4611686018427387904] 45 (0, 0))
    rw [Int.toNat_of_nonneg (by omega)]
  clear h
  go_enter Try.func8, Try.ntmps8
  go_wp2
  go_ret2
  exact ⟨_, rfl, _, hf⟩
theorem rcToken_no (n : Int) (h : ¬ (1 ≤ n ∧ n ≤ 16)) (w : World) : Calls Try.prog 8 #[.int .i64 n] w fun e w' => e = .returned (.tuple #[.pointer none, .int .i64 1]) ∧ Below w.heap.size w w' := by
  by_cases h1 : n < 1
  · clear h
    go_enter Try.func8, Try.ntmps8
    go_wp2
    go_ret2
    exact ⟨rfl, Below.refl _ _⟩
  · have h2 : 16 < n := by omega
    clear h
    go_enter Try.func8, Try.ntmps8
    go_wp2
    go_ret2
    exact ⟨rfl, Below.refl _ _⟩
set_option maxHeartbeats 8000000 in
theorem rcVisit_any {kb tb : Nat} (hk : DTkAt w kb X k) (ht : DTaAt w tb S t) (hd : ∀ i, X i → ¬ S i) (hok : k.ok) (ho : Ta.small t) (l : Int) : Calls Try.prog 20 #[.pointer (some ⟨kb, 0, none⟩), .pointer (some ⟨tb, 0, none⟩), .int .i64 l] w fun e w' => e = .returned (.tuple #[.int .i64 (k.vis t l).2.2.1, .bool (k.vis t l).2.2.2]) ∧ Hid (VS w S X kb tb (k.vis t l).1 (k.vis t l).2.1 w') := by
  have mixed := mixed
  obtain ⟨n, a, cnt, sum, least⟩ := k
  obtain ⟨h1, h2, h3, h4⟩ := hok
  dsimp only at h1 h2 h3 h4
  unfold Tk.vis
  dsimp only
  cases cnt with
  | false =>
    rw [if_pos rfl]
    clear ho h3 h4
    by_cases hl : a + 1 = n
    · subst hl
      rw [if_pos rfl]
      dsimp only
      have hv0 := VS.start hk ht hd
      have hv1 := Lib.hid hv0.drew
      obtain ⟨X1, y1⟩ := hv1.out.tok
      have d0 := y1.c0
      have d1 := y1.c1
      dsimp only at d0 d1
      have hz0 : ((a + 1 : Nat) : Int) = (a : Int) + 1 := rfl
      rw [hz0] at d0
      clear hz0
      clear y1 hv0 hk ht hd
      have hS1 : Hid (∀ W, VS w S X kb tb ⟨(a + 1), a, false, sum, least⟩ t W → VS w S X kb tb ⟨(a + 1), 0, false, sum, least⟩ t (W.setCell ⟨kb, 1, none⟩ (.int .i64 0))) := Lib.hid (fun W h => h.setK 1 _ rfl)
      have hw1 : IntKind.i64.wrap (a : Int) = (a : Int) := IntWalk.i64_in _ (by omega)
      have hw2 : IntKind.i64.wrap ((a : Int) + 1) = (a : Int) + 1 := IntWalk.i64_in _ (by omega)
      have hw3 : ((a : Int) + 1).tmod ((a : Int) + 1) = 0 := Int.tmod_self
      have hw4 : ¬ (a : Int) + 1 = 0 := by omega
      go_enter Try.func20, Try.ntmps20
      go_upto_region 1 with fail
      go_region_held3 (fun w' => w'.cell? ⟨kb, 1, none⟩ = some (.int .i64 (a : Int)) ∧ w'.cell? ⟨kb, 0, none⟩ = some (.int .i64 ((a : Int) + 1))) (exact ⟨d1, d0⟩) (fail)
      go_upto_region 2 with fail
      clear d0 d1
      generalize w.drew = W1 at *
      have hv2 := Lib.hid hv1.out.drew
      obtain ⟨X1, y1⟩ := hv2.out.tok
      have d0 := y1.c0
      have d1 := y1.c1
      have f1 := y1.f 1
      dsimp only at d0 d1
      have hz0 : ((a + 1 : Nat) : Int) = (a : Int) + 1 := rfl
      rw [hz0] at d0
      clear hz0
      clear y1 hv1
      refine wp_region_still_tail 13 (by kernel_rfl) (by kernel_rfl) ?_
      change wpStill _ _ (W1).drew (fun a' => wpList _ _ _ _ a' (W1).drew) _ _
      generalize (W1).drew = W2 at *
      simp only [List.take_succ_cons, List.take_zero, List.drop_succ_cons, List.drop_zero]
      repeat still_step
      refine wpStill_nil ?_
      go_upto_region 3 with fail
      have hv3 := Lib.hid (hS1.out W2 hv2.out)
      clear d0 d1 f1 hv2 hS1
      generalize W2.setCell ⟨kb, 1, none⟩ (.int .i64 0) = W3 at *
      obtain ⟨X1, y1⟩ := hv3.out.tok
      have d2 := y1.c2
      dsimp only at d2
      clear y1
      go_upto_region 5 with (go_at_call 16; refine hv3.out.callFlip.mono ?_; rintro e W4 ⟨rfl, hv4⟩)
      clear d2 hv3
      obtain ⟨X1, y1⟩ := hv4.out.tok
      have d2 := y1.c2
      have d3 := y1.c3
      have d4 := y1.c4
      have f2 := y1.f 2
      have f3 := y1.f 3
      have f4 := y1.f 4
      dsimp only at d2 d3 d4
      clear y1
      have hv5 : Hid (VS w S X kb tb ⟨(a + 1), 0, true, 0, 4611686018427387904⟩ t.flip (((W4.setCell ⟨kb, 2, none⟩ (.bool true)).setCell ⟨kb, 3, none⟩ (.int .i64 0)).setCell ⟨kb, 4, none⟩ (.int .i64 4611686018427387904))) :=
        ((hv4.out.setK (k' := ⟨(a + 1), 0, true, sum, least⟩) 2 (.bool true) rfl).setK (k' := ⟨(a + 1), 0, true, 0, least⟩) 3 (.int .i64 0) rfl).setK 4 (.int .i64 4611686018427387904) rfl
      clear hv4
      go_wp2
      go_ret2
      exact ⟨rfl, hv5⟩
    · rw [if_neg hl]
      dsimp only
      have hv0 := VS.start hk ht hd
      have hv1 := Lib.hid hv0.drew
      obtain ⟨X1, y1⟩ := hv1.out.tok
      have d0 := y1.c0
      have d1 := y1.c1
      dsimp only at d0 d1
      clear y1 hv0 hk ht hd
      have hS1 : Hid (∀ W, VS w S X kb tb ⟨n, a, false, sum, least⟩ t W → VS w S X kb tb ⟨n, (a + 1), false, sum, least⟩ t (W.setCell ⟨kb, 1, none⟩ (.int .i64 ((a : Int) + 1)))) := Lib.hid (fun W h => h.setK 1 _ rfl)
      have hw1 : IntKind.i64.wrap ((n : Int) - 1) = (n : Int) - 1 := IntWalk.i64_in _ (by omega)
      have hw2 : IntKind.i64.wrap ((a : Int) + 1) = (a : Int) + 1 := IntWalk.i64_in _ (by omega)
      have hw3 : ((a : Int) + 1).tmod (n : Int) = (a : Int) + 1 := Int.tmod_eq_of_lt (by omega) (by omega)
      have hw4 : ¬ (n : Int) = 0 := by omega
      have hw5 : ((a : Int) == (n : Int) - 1) = false := by simp; omega
      have hw6 : ¬ n = 0 := by omega
      go_enter Try.func20, Try.ntmps20
      go_upto_region 1 with fail
      go_region_held3 (fun w' => w'.cell? ⟨kb, 1, none⟩ = some (.int .i64 (a : Int)) ∧ w'.cell? ⟨kb, 0, none⟩ = some (.int .i64 (n : Int))) (exact ⟨d1, d0⟩) (fail)
      go_upto_region 2 with fail
      clear d0 d1
      generalize w.drew = W1 at *
      have hv2 := Lib.hid hv1.out.drew
      obtain ⟨X1, y1⟩ := hv2.out.tok
      have d0 := y1.c0
      have d1 := y1.c1
      have f1 := y1.f 1
      dsimp only at d0 d1
      clear y1 hv1
      refine wp_region_still_tail 13 (by kernel_rfl) (by kernel_rfl) ?_
      change wpStill _ _ (W1).drew (fun a' => wpList _ _ _ _ a' (W1).drew) _ _
      generalize (W1).drew = W2 at *
      simp only [List.take_succ_cons, List.take_zero, List.drop_succ_cons, List.drop_zero]
      repeat still_step
      refine wpStill_nil ?_
      go_upto_region 3 with fail
      have hv3 := Lib.hid (hS1.out W2 hv2.out)
      clear d0 d1 f1 hv2 hS1
      generalize W2.setCell ⟨kb, 1, none⟩ (.int .i64 ((a : Int) + 1)) = W3 at *
      obtain ⟨X1, y1⟩ := hv3.out.tok
      have d2 := y1.c2
      dsimp only at d2
      clear y1
      go_upto_region 5 with (go_at_call 16; refine hv3.out.callFlip.mono ?_; rintro e W4 ⟨rfl, hv4⟩)
      clear d2 hv3
      go_wp2
      go_ret2
      exact ⟨rfl, hv4⟩
  | true =>
    rw [if_neg (by decide)]
    obtain ⟨c, n0, n1, red⟩ := t
    obtain ⟨⟨b1, b2⟩, b3, b4⟩ := ho
    dsimp only at b1 b2 b3 b4
    have b5 := h3
    have b6 := h4
    clear h3 h4
    by_cases hl : a + 1 = n
    · subst hl
      rw [if_pos rfl]
      cases c with
      | false =>
        have hws : IntKind.i64.wrap (sum + n1) = sum + n1 := IntWalk.i64_in _ (by omega)
        clear b1 b2 b3 b4 b5 b6
        obtain ⟨m1, hm1⟩ : ∃ m1, (if l < least then l else least) = m1 := ⟨_, rfl⟩
        obtain ⟨m2, hm2⟩ : ∃ m2, (if red < m1 then red else m1) = m2 := ⟨_, rfl⟩
        have hmm : Hid (min (min least l) red = m2) := by
          show _ = _
          rw [← hm2, ← hm1]
          omega
        simp only [Ta.net, Bool.not_true, Bool.not_false, Bool.false_eq_true, if_false, if_true]
        by_cases hs : sum + n1 = 0
        · rw [if_pos hs]
          have hs' := Lib.hid hs
          clear hs
          try rw [hmm.out]
          have hv0 := VS.start hk ht hd
          have hv1 := Lib.hid hv0.drew
          obtain ⟨X1, y1⟩ := hv1.out.tok
          have d0 := y1.c0
          have d1 := y1.c1
          dsimp only at d0 d1
          have hz0 : ((a + 1 : Nat) : Int) = (a : Int) + 1 := rfl
          rw [hz0] at d0
          clear hz0
          clear y1 hv0 hk ht hd
          have hS1 : Hid (∀ W, VS w S X kb tb ⟨(a + 1), a, true, sum, least⟩ ⟨false, n0, n1, red⟩ W → VS w S X kb tb ⟨(a + 1), 0, true, sum, least⟩ ⟨false, n0, n1, red⟩ (W.setCell ⟨kb, 1, none⟩ (.int .i64 0))) := Lib.hid (fun W h => h.setK 1 _ rfl)
          have hw1 : IntKind.i64.wrap (a : Int) = (a : Int) := IntWalk.i64_in _ (by omega)
          have hw2 : IntKind.i64.wrap ((a : Int) + 1) = (a : Int) + 1 := IntWalk.i64_in _ (by omega)
          have hw3 : ((a : Int) + 1).tmod ((a : Int) + 1) = 0 := Int.tmod_self
          have hw4 : ¬ (a : Int) + 1 = 0 := by omega
          go_enter Try.func20, Try.ntmps20
          go_upto_region 1 with fail
          go_region_held3 (fun w' => w'.cell? ⟨kb, 1, none⟩ = some (.int .i64 (a : Int)) ∧ w'.cell? ⟨kb, 0, none⟩ = some (.int .i64 ((a : Int) + 1))) (exact ⟨d1, d0⟩) (fail)
          go_upto_region 2 with fail
          clear d0 d1
          generalize w.drew = W1 at *
          have hv2 := Lib.hid hv1.out.drew
          obtain ⟨X1, y1⟩ := hv2.out.tok
          have d0 := y1.c0
          have d1 := y1.c1
          have f1 := y1.f 1
          dsimp only at d0 d1
          have hz0 : ((a + 1 : Nat) : Int) = (a : Int) + 1 := rfl
          rw [hz0] at d0
          clear hz0
          clear y1 hv1
          refine wp_region_still_tail 13 (by kernel_rfl) (by kernel_rfl) ?_
          change wpStill _ _ (W1).drew (fun a' => wpList _ _ _ _ a' (W1).drew) _ _
          generalize (W1).drew = W2 at *
          simp only [List.take_succ_cons, List.take_zero, List.drop_succ_cons, List.drop_zero]
          repeat still_step
          refine wpStill_nil ?_
          go_upto_region 3 with fail
          have hv3 := Lib.hid (hS1.out W2 hv2.out)
          clear d0 d1 f1 hv2 hS1
          generalize W2.setCell ⟨kb, 1, none⟩ (.int .i64 0) = W3 at *
          obtain ⟨X1, y1⟩ := hv3.out.tok
          have d2 := y1.c2
          dsimp only at d2
          clear y1
          have hv4 := Lib.hid hv3.out.drew
          obtain ⟨X1, y1⟩ := hv4.out.tok
          obtain ⟨S1, g, x1⟩ := hv4.out.tal
          have d3 := y1.c3
          have f3 := y1.f 3
          have t0 := x1.c
          have t1 := x1.v
          have tn := x1.n1
          dsimp only at d3 t0 tn
          simp only [colI, Bool.false_eq_true, if_false, if_true] at t0
          clear y1 x1 hv3
          have hq0 : IntKind.i64.wrap 0 = 0 := rfl
          have hq1 : IntKind.i64.wrap 1 = 1 := rfl
          go_upto_region 10 with fail
          clear d2
          refine wp_region_still_tail 19 (by kernel_rfl) (by kernel_rfl) ?_
          change wpStill _ _ (W3).drew (fun a' => wpList _ _ _ _ a' (W3).drew) _ _
          generalize (W3).drew = W4 at *
          simp only [List.take_succ_cons, List.take_zero, List.drop_succ_cons, List.drop_zero]
          repeat still_step
          refine wpStill_nil ?_
          go_upto_region 11 with fail
          have hv5 : Hid (VS w S X kb tb ⟨(a + 1), 0, true, sum + n1, least⟩ ⟨false, n0, n1, red⟩ (W4.setCell ⟨kb, 3, none⟩ (.int .i64 (sum + n1)))) := hv4.out.setK 3 _ rfl
          clear d3 f3 t0 t1 tn hv4
          generalize W4.setCell ⟨kb, 3, none⟩ (.int .i64 (sum + n1)) = W5 at *
          have hv6 := Lib.hid hv5.out.drew
          obtain ⟨X2, y1⟩ := hv6.out.tok
          obtain ⟨S2, g2, x1⟩ := hv6.out.tal
          have d4 := y1.c4
          have f4 := y1.f 4
          have t2 := x1.r
          dsimp only at d4 t2
          clear y1 x1 hv5
          refine wp_region_still_tail 13 (by kernel_rfl) (by kernel_rfl) ?_
          change wpStill _ _ (W5).drew (fun a' => wpList _ _ _ _ a' (W5).drew) _ _
          generalize (W5).drew = W6 at *
          simp only [List.take_succ_cons, List.take_zero, List.drop_succ_cons, List.drop_zero]
          repeat still_step
          refine wpStill_nil ?_
          have hv7 : Hid (VS w S X kb tb ⟨(a + 1), 0, true, sum + n1, m2⟩ ⟨false, n0, n1, red⟩ (W6.setCell ⟨kb, 4, none⟩ (.int .i64 m2))) := hv6.out.setK 4 _ rfl
          go_upto_region 12 with fail
          clear d4 f4 t2 hv6
          generalize W6.setCell ⟨kb, 4, none⟩ (.int .i64 m2) = W7 at *
          generalize sum + n1 = sm at *
          clear hm1 hm2 hmm
          obtain ⟨X3, y1⟩ := hv7.out.tok
          have d2 := y1.c2
          have d3 := y1.c3
          have d4 := y1.c4
          have f2 := y1.f 2
          have f3 := y1.f 3
          have f4 := y1.f 4
          dsimp only at d2 d3 d4
          clear y1 hw1 hw2 hw3 hw4
          have hs2 := hs'.out
          subst hs2
          have hv8 : Hid (VS w S X kb tb ⟨(a + 1), 0, false, 0, 4611686018427387904⟩ ⟨false, n0, n1, red⟩ (((W7.setCell ⟨kb, 3, none⟩ (.int .i64 0)).setCell ⟨kb, 4, none⟩ (.int .i64 4611686018427387904)).setCell ⟨kb, 2, none⟩ (.bool false))) :=
            ((hv7.out.setK (k' := ⟨(a + 1), 0, true, 0, m2⟩) 3 (.int .i64 0) rfl).setK (k' := ⟨(a + 1), 0, true, 0, 4611686018427387904⟩) 4 (.int .i64 4611686018427387904) rfl).setK 2 (.bool false) rfl
          clear hv7
          go_wp2
          go_ret2
          exact ⟨rfl, hv8⟩
        · rw [if_neg hs]
          have hs' := Lib.hid hs
          clear hs
          try rw [hmm.out]
          have hv0 := VS.start hk ht hd
          have hv1 := Lib.hid hv0.drew
          obtain ⟨X1, y1⟩ := hv1.out.tok
          have d0 := y1.c0
          have d1 := y1.c1
          dsimp only at d0 d1
          have hz0 : ((a + 1 : Nat) : Int) = (a : Int) + 1 := rfl
          rw [hz0] at d0
          clear hz0
          clear y1 hv0 hk ht hd
          have hS1 : Hid (∀ W, VS w S X kb tb ⟨(a + 1), a, true, sum, least⟩ ⟨false, n0, n1, red⟩ W → VS w S X kb tb ⟨(a + 1), 0, true, sum, least⟩ ⟨false, n0, n1, red⟩ (W.setCell ⟨kb, 1, none⟩ (.int .i64 0))) := Lib.hid (fun W h => h.setK 1 _ rfl)
          have hw1 : IntKind.i64.wrap (a : Int) = (a : Int) := IntWalk.i64_in _ (by omega)
          have hw2 : IntKind.i64.wrap ((a : Int) + 1) = (a : Int) + 1 := IntWalk.i64_in _ (by omega)
          have hw3 : ((a : Int) + 1).tmod ((a : Int) + 1) = 0 := Int.tmod_self
          have hw4 : ¬ (a : Int) + 1 = 0 := by omega
          go_enter Try.func20, Try.ntmps20
          go_upto_region 1 with fail
          go_region_held3 (fun w' => w'.cell? ⟨kb, 1, none⟩ = some (.int .i64 (a : Int)) ∧ w'.cell? ⟨kb, 0, none⟩ = some (.int .i64 ((a : Int) + 1))) (exact ⟨d1, d0⟩) (fail)
          go_upto_region 2 with fail
          clear d0 d1
          generalize w.drew = W1 at *
          have hv2 := Lib.hid hv1.out.drew
          obtain ⟨X1, y1⟩ := hv2.out.tok
          have d0 := y1.c0
          have d1 := y1.c1
          have f1 := y1.f 1
          dsimp only at d0 d1
          have hz0 : ((a + 1 : Nat) : Int) = (a : Int) + 1 := rfl
          rw [hz0] at d0
          clear hz0
          clear y1 hv1
          refine wp_region_still_tail 13 (by kernel_rfl) (by kernel_rfl) ?_
          change wpStill _ _ (W1).drew (fun a' => wpList _ _ _ _ a' (W1).drew) _ _
          generalize (W1).drew = W2 at *
          simp only [List.take_succ_cons, List.take_zero, List.drop_succ_cons, List.drop_zero]
          repeat still_step
          refine wpStill_nil ?_
          go_upto_region 3 with fail
          have hv3 := Lib.hid (hS1.out W2 hv2.out)
          clear d0 d1 f1 hv2 hS1
          generalize W2.setCell ⟨kb, 1, none⟩ (.int .i64 0) = W3 at *
          obtain ⟨X1, y1⟩ := hv3.out.tok
          have d2 := y1.c2
          dsimp only at d2
          clear y1
          have hv4 := Lib.hid hv3.out.drew
          obtain ⟨X1, y1⟩ := hv4.out.tok
          obtain ⟨S1, g, x1⟩ := hv4.out.tal
          have d3 := y1.c3
          have f3 := y1.f 3
          have t0 := x1.c
          have t1 := x1.v
          have tn := x1.n1
          dsimp only at d3 t0 tn
          simp only [colI, Bool.false_eq_true, if_false, if_true] at t0
          clear y1 x1 hv3
          have hq0 : IntKind.i64.wrap 0 = 0 := rfl
          have hq1 : IntKind.i64.wrap 1 = 1 := rfl
          go_upto_region 10 with fail
          clear d2
          refine wp_region_still_tail 19 (by kernel_rfl) (by kernel_rfl) ?_
          change wpStill _ _ (W3).drew (fun a' => wpList _ _ _ _ a' (W3).drew) _ _
          generalize (W3).drew = W4 at *
          simp only [List.take_succ_cons, List.take_zero, List.drop_succ_cons, List.drop_zero]
          repeat still_step
          refine wpStill_nil ?_
          go_upto_region 11 with fail
          have hv5 : Hid (VS w S X kb tb ⟨(a + 1), 0, true, sum + n1, least⟩ ⟨false, n0, n1, red⟩ (W4.setCell ⟨kb, 3, none⟩ (.int .i64 (sum + n1)))) := hv4.out.setK 3 _ rfl
          clear d3 f3 t0 t1 tn hv4
          generalize W4.setCell ⟨kb, 3, none⟩ (.int .i64 (sum + n1)) = W5 at *
          have hv6 := Lib.hid hv5.out.drew
          obtain ⟨X2, y1⟩ := hv6.out.tok
          obtain ⟨S2, g2, x1⟩ := hv6.out.tal
          have d4 := y1.c4
          have f4 := y1.f 4
          have t2 := x1.r
          dsimp only at d4 t2
          clear y1 x1 hv5
          refine wp_region_still_tail 13 (by kernel_rfl) (by kernel_rfl) ?_
          change wpStill _ _ (W5).drew (fun a' => wpList _ _ _ _ a' (W5).drew) _ _
          generalize (W5).drew = W6 at *
          simp only [List.take_succ_cons, List.take_zero, List.drop_succ_cons, List.drop_zero]
          repeat still_step
          refine wpStill_nil ?_
          have hv7 : Hid (VS w S X kb tb ⟨(a + 1), 0, true, sum + n1, m2⟩ ⟨false, n0, n1, red⟩ (W6.setCell ⟨kb, 4, none⟩ (.int .i64 m2))) := hv6.out.setK 4 _ rfl
          go_upto_region 12 with fail
          clear d4 f4 t2 hv6
          generalize W6.setCell ⟨kb, 4, none⟩ (.int .i64 m2) = W7 at *
          generalize sum + n1 = sm at *
          clear hm1 hm2 hmm
          obtain ⟨X3, y1⟩ := hv7.out.tok
          have d2 := y1.c2
          have d3 := y1.c3
          have d4 := y1.c4
          have f2 := y1.f 2
          have f3 := y1.f 3
          have f4 := y1.f 4
          dsimp only at d2 d3 d4
          clear y1 hw1 hw2 hw3 hw4
          have hs2 := hs'.out
          have hs3 : (sm == 0) = false := by simp [hs2]
          have hv8 : Hid (VS w S X kb tb ⟨(a + 1), 0, true, 0, 4611686018427387904⟩ ⟨false, n0, n1, red⟩ ((W7.setCell ⟨kb, 3, none⟩ (.int .i64 0)).setCell ⟨kb, 4, none⟩ (.int .i64 4611686018427387904))) :=
            (hv7.out.setK (k' := ⟨(a + 1), 0, true, 0, m2⟩) 3 (.int .i64 0) rfl).setK 4 (.int .i64 4611686018427387904) rfl
          clear hv7
          go_wp2
          go_ret2
          exact ⟨rfl, hv8⟩
      | true =>
        have hws : IntKind.i64.wrap (sum + n0) = sum + n0 := IntWalk.i64_in _ (by omega)
        clear b1 b2 b3 b4 b5 b6
        obtain ⟨m1, hm1⟩ : ∃ m1, (if l < least then l else least) = m1 := ⟨_, rfl⟩
        obtain ⟨m2, hm2⟩ : ∃ m2, (if red < m1 then red else m1) = m2 := ⟨_, rfl⟩
        have hmm : Hid (min (min least l) red = m2) := by
          show _ = _
          rw [← hm2, ← hm1]
          omega
        simp only [Ta.net, Bool.not_true, Bool.not_false, Bool.false_eq_true, if_false, if_true]
        by_cases hs : sum + n0 = 0
        · rw [if_pos hs]
          have hs' := Lib.hid hs
          clear hs
          try rw [hmm.out]
          have hv0 := VS.start hk ht hd
          have hv1 := Lib.hid hv0.drew
          obtain ⟨X1, y1⟩ := hv1.out.tok
          have d0 := y1.c0
          have d1 := y1.c1
          dsimp only at d0 d1
          have hz0 : ((a + 1 : Nat) : Int) = (a : Int) + 1 := rfl
          rw [hz0] at d0
          clear hz0
          clear y1 hv0 hk ht hd
          have hS1 : Hid (∀ W, VS w S X kb tb ⟨(a + 1), a, true, sum, least⟩ ⟨true, n0, n1, red⟩ W → VS w S X kb tb ⟨(a + 1), 0, true, sum, least⟩ ⟨true, n0, n1, red⟩ (W.setCell ⟨kb, 1, none⟩ (.int .i64 0))) := Lib.hid (fun W h => h.setK 1 _ rfl)
          have hw1 : IntKind.i64.wrap (a : Int) = (a : Int) := IntWalk.i64_in _ (by omega)
          have hw2 : IntKind.i64.wrap ((a : Int) + 1) = (a : Int) + 1 := IntWalk.i64_in _ (by omega)
          have hw3 : ((a : Int) + 1).tmod ((a : Int) + 1) = 0 := Int.tmod_self
          have hw4 : ¬ (a : Int) + 1 = 0 := by omega
          go_enter Try.func20, Try.ntmps20
          go_upto_region 1 with fail
          go_region_held3 (fun w' => w'.cell? ⟨kb, 1, none⟩ = some (.int .i64 (a : Int)) ∧ w'.cell? ⟨kb, 0, none⟩ = some (.int .i64 ((a : Int) + 1))) (exact ⟨d1, d0⟩) (fail)
          go_upto_region 2 with fail
          clear d0 d1
          generalize w.drew = W1 at *
          have hv2 := Lib.hid hv1.out.drew
          obtain ⟨X1, y1⟩ := hv2.out.tok
          have d0 := y1.c0
          have d1 := y1.c1
          have f1 := y1.f 1
          dsimp only at d0 d1
          have hz0 : ((a + 1 : Nat) : Int) = (a : Int) + 1 := rfl
          rw [hz0] at d0
          clear hz0
          clear y1 hv1
          refine wp_region_still_tail 13 (by kernel_rfl) (by kernel_rfl) ?_
          change wpStill _ _ (W1).drew (fun a' => wpList _ _ _ _ a' (W1).drew) _ _
          generalize (W1).drew = W2 at *
          simp only [List.take_succ_cons, List.take_zero, List.drop_succ_cons, List.drop_zero]
          repeat still_step
          refine wpStill_nil ?_
          go_upto_region 3 with fail
          have hv3 := Lib.hid (hS1.out W2 hv2.out)
          clear d0 d1 f1 hv2 hS1
          generalize W2.setCell ⟨kb, 1, none⟩ (.int .i64 0) = W3 at *
          obtain ⟨X1, y1⟩ := hv3.out.tok
          have d2 := y1.c2
          dsimp only at d2
          clear y1
          have hv4 := Lib.hid hv3.out.drew
          obtain ⟨X1, y1⟩ := hv4.out.tok
          obtain ⟨S1, g, x1⟩ := hv4.out.tal
          have d3 := y1.c3
          have f3 := y1.f 3
          have t0 := x1.c
          have t1 := x1.v
          have tn := x1.n0
          dsimp only at d3 t0 tn
          simp only [colI, Bool.false_eq_true, if_false, if_true] at t0
          clear y1 x1 hv3
          have hq0 : IntKind.i64.wrap 0 = 0 := rfl
          have hq1 : IntKind.i64.wrap 1 = 1 := rfl
          go_upto_region 10 with fail
          clear d2
          refine wp_region_still_tail 19 (by kernel_rfl) (by kernel_rfl) ?_
          change wpStill _ _ (W3).drew (fun a' => wpList _ _ _ _ a' (W3).drew) _ _
          generalize (W3).drew = W4 at *
          simp only [List.take_succ_cons, List.take_zero, List.drop_succ_cons, List.drop_zero]
          repeat still_step
          refine wpStill_nil ?_
          go_upto_region 11 with fail
          have hv5 : Hid (VS w S X kb tb ⟨(a + 1), 0, true, sum + n0, least⟩ ⟨true, n0, n1, red⟩ (W4.setCell ⟨kb, 3, none⟩ (.int .i64 (sum + n0)))) := hv4.out.setK 3 _ rfl
          clear d3 f3 t0 t1 tn hv4
          generalize W4.setCell ⟨kb, 3, none⟩ (.int .i64 (sum + n0)) = W5 at *
          have hv6 := Lib.hid hv5.out.drew
          obtain ⟨X2, y1⟩ := hv6.out.tok
          obtain ⟨S2, g2, x1⟩ := hv6.out.tal
          have d4 := y1.c4
          have f4 := y1.f 4
          have t2 := x1.r
          dsimp only at d4 t2
          clear y1 x1 hv5
          refine wp_region_still_tail 13 (by kernel_rfl) (by kernel_rfl) ?_
          change wpStill _ _ (W5).drew (fun a' => wpList _ _ _ _ a' (W5).drew) _ _
          generalize (W5).drew = W6 at *
          simp only [List.take_succ_cons, List.take_zero, List.drop_succ_cons, List.drop_zero]
          repeat still_step
          refine wpStill_nil ?_
          have hv7 : Hid (VS w S X kb tb ⟨(a + 1), 0, true, sum + n0, m2⟩ ⟨true, n0, n1, red⟩ (W6.setCell ⟨kb, 4, none⟩ (.int .i64 m2))) := hv6.out.setK 4 _ rfl
          go_upto_region 12 with fail
          clear d4 f4 t2 hv6
          generalize W6.setCell ⟨kb, 4, none⟩ (.int .i64 m2) = W7 at *
          generalize sum + n0 = sm at *
          clear hm1 hm2 hmm
          obtain ⟨X3, y1⟩ := hv7.out.tok
          have d2 := y1.c2
          have d3 := y1.c3
          have d4 := y1.c4
          have f2 := y1.f 2
          have f3 := y1.f 3
          have f4 := y1.f 4
          dsimp only at d2 d3 d4
          clear y1 hw1 hw2 hw3 hw4
          have hs2 := hs'.out
          subst hs2
          have hv8 : Hid (VS w S X kb tb ⟨(a + 1), 0, false, 0, 4611686018427387904⟩ ⟨true, n0, n1, red⟩ (((W7.setCell ⟨kb, 3, none⟩ (.int .i64 0)).setCell ⟨kb, 4, none⟩ (.int .i64 4611686018427387904)).setCell ⟨kb, 2, none⟩ (.bool false))) :=
            ((hv7.out.setK (k' := ⟨(a + 1), 0, true, 0, m2⟩) 3 (.int .i64 0) rfl).setK (k' := ⟨(a + 1), 0, true, 0, 4611686018427387904⟩) 4 (.int .i64 4611686018427387904) rfl).setK 2 (.bool false) rfl
          clear hv7
          go_wp2
          go_ret2
          exact ⟨rfl, hv8⟩
        · rw [if_neg hs]
          have hs' := Lib.hid hs
          clear hs
          try rw [hmm.out]
          have hv0 := VS.start hk ht hd
          have hv1 := Lib.hid hv0.drew
          obtain ⟨X1, y1⟩ := hv1.out.tok
          have d0 := y1.c0
          have d1 := y1.c1
          dsimp only at d0 d1
          have hz0 : ((a + 1 : Nat) : Int) = (a : Int) + 1 := rfl
          rw [hz0] at d0
          clear hz0
          clear y1 hv0 hk ht hd
          have hS1 : Hid (∀ W, VS w S X kb tb ⟨(a + 1), a, true, sum, least⟩ ⟨true, n0, n1, red⟩ W → VS w S X kb tb ⟨(a + 1), 0, true, sum, least⟩ ⟨true, n0, n1, red⟩ (W.setCell ⟨kb, 1, none⟩ (.int .i64 0))) := Lib.hid (fun W h => h.setK 1 _ rfl)
          have hw1 : IntKind.i64.wrap (a : Int) = (a : Int) := IntWalk.i64_in _ (by omega)
          have hw2 : IntKind.i64.wrap ((a : Int) + 1) = (a : Int) + 1 := IntWalk.i64_in _ (by omega)
          have hw3 : ((a : Int) + 1).tmod ((a : Int) + 1) = 0 := Int.tmod_self
          have hw4 : ¬ (a : Int) + 1 = 0 := by omega
          go_enter Try.func20, Try.ntmps20
          go_upto_region 1 with fail
          go_region_held3 (fun w' => w'.cell? ⟨kb, 1, none⟩ = some (.int .i64 (a : Int)) ∧ w'.cell? ⟨kb, 0, none⟩ = some (.int .i64 ((a : Int) + 1))) (exact ⟨d1, d0⟩) (fail)
          go_upto_region 2 with fail
          clear d0 d1
          generalize w.drew = W1 at *
          have hv2 := Lib.hid hv1.out.drew
          obtain ⟨X1, y1⟩ := hv2.out.tok
          have d0 := y1.c0
          have d1 := y1.c1
          have f1 := y1.f 1
          dsimp only at d0 d1
          have hz0 : ((a + 1 : Nat) : Int) = (a : Int) + 1 := rfl
          rw [hz0] at d0
          clear hz0
          clear y1 hv1
          refine wp_region_still_tail 13 (by kernel_rfl) (by kernel_rfl) ?_
          change wpStill _ _ (W1).drew (fun a' => wpList _ _ _ _ a' (W1).drew) _ _
          generalize (W1).drew = W2 at *
          simp only [List.take_succ_cons, List.take_zero, List.drop_succ_cons, List.drop_zero]
          repeat still_step
          refine wpStill_nil ?_
          go_upto_region 3 with fail
          have hv3 := Lib.hid (hS1.out W2 hv2.out)
          clear d0 d1 f1 hv2 hS1
          generalize W2.setCell ⟨kb, 1, none⟩ (.int .i64 0) = W3 at *
          obtain ⟨X1, y1⟩ := hv3.out.tok
          have d2 := y1.c2
          dsimp only at d2
          clear y1
          have hv4 := Lib.hid hv3.out.drew
          obtain ⟨X1, y1⟩ := hv4.out.tok
          obtain ⟨S1, g, x1⟩ := hv4.out.tal
          have d3 := y1.c3
          have f3 := y1.f 3
          have t0 := x1.c
          have t1 := x1.v
          have tn := x1.n0
          dsimp only at d3 t0 tn
          simp only [colI, Bool.false_eq_true, if_false, if_true] at t0
          clear y1 x1 hv3
          have hq0 : IntKind.i64.wrap 0 = 0 := rfl
          have hq1 : IntKind.i64.wrap 1 = 1 := rfl
          go_upto_region 10 with fail
          clear d2
          refine wp_region_still_tail 19 (by kernel_rfl) (by kernel_rfl) ?_
          change wpStill _ _ (W3).drew (fun a' => wpList _ _ _ _ a' (W3).drew) _ _
          generalize (W3).drew = W4 at *
          simp only [List.take_succ_cons, List.take_zero, List.drop_succ_cons, List.drop_zero]
          repeat still_step
          refine wpStill_nil ?_
          go_upto_region 11 with fail
          have hv5 : Hid (VS w S X kb tb ⟨(a + 1), 0, true, sum + n0, least⟩ ⟨true, n0, n1, red⟩ (W4.setCell ⟨kb, 3, none⟩ (.int .i64 (sum + n0)))) := hv4.out.setK 3 _ rfl
          clear d3 f3 t0 t1 tn hv4
          generalize W4.setCell ⟨kb, 3, none⟩ (.int .i64 (sum + n0)) = W5 at *
          have hv6 := Lib.hid hv5.out.drew
          obtain ⟨X2, y1⟩ := hv6.out.tok
          obtain ⟨S2, g2, x1⟩ := hv6.out.tal
          have d4 := y1.c4
          have f4 := y1.f 4
          have t2 := x1.r
          dsimp only at d4 t2
          clear y1 x1 hv5
          refine wp_region_still_tail 13 (by kernel_rfl) (by kernel_rfl) ?_
          change wpStill _ _ (W5).drew (fun a' => wpList _ _ _ _ a' (W5).drew) _ _
          generalize (W5).drew = W6 at *
          simp only [List.take_succ_cons, List.take_zero, List.drop_succ_cons, List.drop_zero]
          repeat still_step
          refine wpStill_nil ?_
          have hv7 : Hid (VS w S X kb tb ⟨(a + 1), 0, true, sum + n0, m2⟩ ⟨true, n0, n1, red⟩ (W6.setCell ⟨kb, 4, none⟩ (.int .i64 m2))) := hv6.out.setK 4 _ rfl
          go_upto_region 12 with fail
          clear d4 f4 t2 hv6
          generalize W6.setCell ⟨kb, 4, none⟩ (.int .i64 m2) = W7 at *
          generalize sum + n0 = sm at *
          clear hm1 hm2 hmm
          obtain ⟨X3, y1⟩ := hv7.out.tok
          have d2 := y1.c2
          have d3 := y1.c3
          have d4 := y1.c4
          have f2 := y1.f 2
          have f3 := y1.f 3
          have f4 := y1.f 4
          dsimp only at d2 d3 d4
          clear y1 hw1 hw2 hw3 hw4
          have hs2 := hs'.out
          have hs3 : (sm == 0) = false := by simp [hs2]
          have hv8 : Hid (VS w S X kb tb ⟨(a + 1), 0, true, 0, 4611686018427387904⟩ ⟨true, n0, n1, red⟩ ((W7.setCell ⟨kb, 3, none⟩ (.int .i64 0)).setCell ⟨kb, 4, none⟩ (.int .i64 4611686018427387904))) :=
            (hv7.out.setK (k' := ⟨(a + 1), 0, true, 0, m2⟩) 3 (.int .i64 0) rfl).setK 4 (.int .i64 4611686018427387904) rfl
          clear hv7
          go_wp2
          go_ret2
          exact ⟨rfl, hv8⟩
    · rw [if_neg hl]
      dsimp only
      cases c with
      | false =>
        have hws : IntKind.i64.wrap (sum + n1) = sum + n1 := IntWalk.i64_in _ (by omega)
        clear b1 b2 b3 b4 b5 b6
        obtain ⟨m1, hm1⟩ : ∃ m1, (if l < least then l else least) = m1 := ⟨_, rfl⟩
        obtain ⟨m2, hm2⟩ : ∃ m2, (if red < m1 then red else m1) = m2 := ⟨_, rfl⟩
        have hmm : Hid (min (min least l) red = m2) := by
          show _ = _
          rw [← hm2, ← hm1]
          omega
        simp only [Ta.net, Bool.not_true, Bool.not_false, Bool.false_eq_true, if_false, if_true]
        try rw [hmm.out]
        have hv0 := VS.start hk ht hd
        have hv1 := Lib.hid hv0.drew
        obtain ⟨X1, y1⟩ := hv1.out.tok
        have d0 := y1.c0
        have d1 := y1.c1
        dsimp only at d0 d1
        clear y1 hv0 hk ht hd
        have hS1 : Hid (∀ W, VS w S X kb tb ⟨n, a, true, sum, least⟩ ⟨false, n0, n1, red⟩ W → VS w S X kb tb ⟨n, (a + 1), true, sum, least⟩ ⟨false, n0, n1, red⟩ (W.setCell ⟨kb, 1, none⟩ (.int .i64 ((a : Int) + 1)))) := Lib.hid (fun W h => h.setK 1 _ rfl)
        have hw1 : IntKind.i64.wrap ((n : Int) - 1) = (n : Int) - 1 := IntWalk.i64_in _ (by omega)
        have hw2 : IntKind.i64.wrap ((a : Int) + 1) = (a : Int) + 1 := IntWalk.i64_in _ (by omega)
        have hw3 : ((a : Int) + 1).tmod (n : Int) = (a : Int) + 1 := Int.tmod_eq_of_lt (by omega) (by omega)
        have hw4 : ¬ (n : Int) = 0 := by omega
        have hw5 : ((a : Int) == (n : Int) - 1) = false := by simp; omega
        have hw6 : ¬ n = 0 := by omega
        go_enter Try.func20, Try.ntmps20
        go_upto_region 1 with fail
        go_region_held3 (fun w' => w'.cell? ⟨kb, 1, none⟩ = some (.int .i64 (a : Int)) ∧ w'.cell? ⟨kb, 0, none⟩ = some (.int .i64 (n : Int))) (exact ⟨d1, d0⟩) (fail)
        go_upto_region 2 with fail
        clear d0 d1
        generalize w.drew = W1 at *
        have hv2 := Lib.hid hv1.out.drew
        obtain ⟨X1, y1⟩ := hv2.out.tok
        have d0 := y1.c0
        have d1 := y1.c1
        have f1 := y1.f 1
        dsimp only at d0 d1
        clear y1 hv1
        refine wp_region_still_tail 13 (by kernel_rfl) (by kernel_rfl) ?_
        change wpStill _ _ (W1).drew (fun a' => wpList _ _ _ _ a' (W1).drew) _ _
        generalize (W1).drew = W2 at *
        simp only [List.take_succ_cons, List.take_zero, List.drop_succ_cons, List.drop_zero]
        repeat still_step
        refine wpStill_nil ?_
        go_upto_region 3 with fail
        have hv3 := Lib.hid (hS1.out W2 hv2.out)
        clear d0 d1 f1 hv2 hS1
        generalize W2.setCell ⟨kb, 1, none⟩ (.int .i64 ((a : Int) + 1)) = W3 at *
        obtain ⟨X1, y1⟩ := hv3.out.tok
        have d2 := y1.c2
        dsimp only at d2
        clear y1
        have hv4 := Lib.hid hv3.out.drew
        obtain ⟨X1, y1⟩ := hv4.out.tok
        obtain ⟨S1, g, x1⟩ := hv4.out.tal
        have d3 := y1.c3
        have f3 := y1.f 3
        have t0 := x1.c
        have t1 := x1.v
        have tn := x1.n1
        dsimp only at d3 t0 tn
        simp only [colI, Bool.false_eq_true, if_false, if_true] at t0
        clear y1 x1 hv3
        have hq0 : IntKind.i64.wrap 0 = 0 := rfl
        have hq1 : IntKind.i64.wrap 1 = 1 := rfl
        go_upto_region 10 with fail
        clear d2
        refine wp_region_still_tail 19 (by kernel_rfl) (by kernel_rfl) ?_
        change wpStill _ _ (W3).drew (fun a' => wpList _ _ _ _ a' (W3).drew) _ _
        generalize (W3).drew = W4 at *
        simp only [List.take_succ_cons, List.take_zero, List.drop_succ_cons, List.drop_zero]
        repeat still_step
        refine wpStill_nil ?_
        go_upto_region 11 with fail
        have hv5 : Hid (VS w S X kb tb ⟨n, (a + 1), true, sum + n1, least⟩ ⟨false, n0, n1, red⟩ (W4.setCell ⟨kb, 3, none⟩ (.int .i64 (sum + n1)))) := hv4.out.setK 3 _ rfl
        clear d3 f3 t0 t1 tn hv4
        generalize W4.setCell ⟨kb, 3, none⟩ (.int .i64 (sum + n1)) = W5 at *
        have hv6 := Lib.hid hv5.out.drew
        obtain ⟨X2, y1⟩ := hv6.out.tok
        obtain ⟨S2, g2, x1⟩ := hv6.out.tal
        have d4 := y1.c4
        have f4 := y1.f 4
        have t2 := x1.r
        dsimp only at d4 t2
        clear y1 x1 hv5
        refine wp_region_still_tail 13 (by kernel_rfl) (by kernel_rfl) ?_
        change wpStill _ _ (W5).drew (fun a' => wpList _ _ _ _ a' (W5).drew) _ _
        generalize (W5).drew = W6 at *
        simp only [List.take_succ_cons, List.take_zero, List.drop_succ_cons, List.drop_zero]
        repeat still_step
        refine wpStill_nil ?_
        have hv7 : Hid (VS w S X kb tb ⟨n, (a + 1), true, sum + n1, m2⟩ ⟨false, n0, n1, red⟩ (W6.setCell ⟨kb, 4, none⟩ (.int .i64 m2))) := hv6.out.setK 4 _ rfl
        go_upto_region 12 with fail
        clear d4 f4 t2 hv6
        generalize W6.setCell ⟨kb, 4, none⟩ (.int .i64 m2) = W7 at *
        clear hm1 hm2 hmm
        go_wp2
        go_ret2
        exact ⟨rfl, hv7⟩
      | true =>
        have hws : IntKind.i64.wrap (sum + n0) = sum + n0 := IntWalk.i64_in _ (by omega)
        clear b1 b2 b3 b4 b5 b6
        obtain ⟨m1, hm1⟩ : ∃ m1, (if l < least then l else least) = m1 := ⟨_, rfl⟩
        obtain ⟨m2, hm2⟩ : ∃ m2, (if red < m1 then red else m1) = m2 := ⟨_, rfl⟩
        have hmm : Hid (min (min least l) red = m2) := by
          show _ = _
          rw [← hm2, ← hm1]
          omega
        simp only [Ta.net, Bool.not_true, Bool.not_false, Bool.false_eq_true, if_false, if_true]
        try rw [hmm.out]
        have hv0 := VS.start hk ht hd
        have hv1 := Lib.hid hv0.drew
        obtain ⟨X1, y1⟩ := hv1.out.tok
        have d0 := y1.c0
        have d1 := y1.c1
        dsimp only at d0 d1
        clear y1 hv0 hk ht hd
        have hS1 : Hid (∀ W, VS w S X kb tb ⟨n, a, true, sum, least⟩ ⟨true, n0, n1, red⟩ W → VS w S X kb tb ⟨n, (a + 1), true, sum, least⟩ ⟨true, n0, n1, red⟩ (W.setCell ⟨kb, 1, none⟩ (.int .i64 ((a : Int) + 1)))) := Lib.hid (fun W h => h.setK 1 _ rfl)
        have hw1 : IntKind.i64.wrap ((n : Int) - 1) = (n : Int) - 1 := IntWalk.i64_in _ (by omega)
        have hw2 : IntKind.i64.wrap ((a : Int) + 1) = (a : Int) + 1 := IntWalk.i64_in _ (by omega)
        have hw3 : ((a : Int) + 1).tmod (n : Int) = (a : Int) + 1 := Int.tmod_eq_of_lt (by omega) (by omega)
        have hw4 : ¬ (n : Int) = 0 := by omega
        have hw5 : ((a : Int) == (n : Int) - 1) = false := by simp; omega
        have hw6 : ¬ n = 0 := by omega
        go_enter Try.func20, Try.ntmps20
        go_upto_region 1 with fail
        go_region_held3 (fun w' => w'.cell? ⟨kb, 1, none⟩ = some (.int .i64 (a : Int)) ∧ w'.cell? ⟨kb, 0, none⟩ = some (.int .i64 (n : Int))) (exact ⟨d1, d0⟩) (fail)
        go_upto_region 2 with fail
        clear d0 d1
        generalize w.drew = W1 at *
        have hv2 := Lib.hid hv1.out.drew
        obtain ⟨X1, y1⟩ := hv2.out.tok
        have d0 := y1.c0
        have d1 := y1.c1
        have f1 := y1.f 1
        dsimp only at d0 d1
        clear y1 hv1
        refine wp_region_still_tail 13 (by kernel_rfl) (by kernel_rfl) ?_
        change wpStill _ _ (W1).drew (fun a' => wpList _ _ _ _ a' (W1).drew) _ _
        generalize (W1).drew = W2 at *
        simp only [List.take_succ_cons, List.take_zero, List.drop_succ_cons, List.drop_zero]
        repeat still_step
        refine wpStill_nil ?_
        go_upto_region 3 with fail
        have hv3 := Lib.hid (hS1.out W2 hv2.out)
        clear d0 d1 f1 hv2 hS1
        generalize W2.setCell ⟨kb, 1, none⟩ (.int .i64 ((a : Int) + 1)) = W3 at *
        obtain ⟨X1, y1⟩ := hv3.out.tok
        have d2 := y1.c2
        dsimp only at d2
        clear y1
        have hv4 := Lib.hid hv3.out.drew
        obtain ⟨X1, y1⟩ := hv4.out.tok
        obtain ⟨S1, g, x1⟩ := hv4.out.tal
        have d3 := y1.c3
        have f3 := y1.f 3
        have t0 := x1.c
        have t1 := x1.v
        have tn := x1.n0
        dsimp only at d3 t0 tn
        simp only [colI, Bool.false_eq_true, if_false, if_true] at t0
        clear y1 x1 hv3
        have hq0 : IntKind.i64.wrap 0 = 0 := rfl
        have hq1 : IntKind.i64.wrap 1 = 1 := rfl
        go_upto_region 10 with fail
        clear d2
        refine wp_region_still_tail 19 (by kernel_rfl) (by kernel_rfl) ?_
        change wpStill _ _ (W3).drew (fun a' => wpList _ _ _ _ a' (W3).drew) _ _
        generalize (W3).drew = W4 at *
        simp only [List.take_succ_cons, List.take_zero, List.drop_succ_cons, List.drop_zero]
        repeat still_step
        refine wpStill_nil ?_
        go_upto_region 11 with fail
        have hv5 : Hid (VS w S X kb tb ⟨n, (a + 1), true, sum + n0, least⟩ ⟨true, n0, n1, red⟩ (W4.setCell ⟨kb, 3, none⟩ (.int .i64 (sum + n0)))) := hv4.out.setK 3 _ rfl
        clear d3 f3 t0 t1 tn hv4
        generalize W4.setCell ⟨kb, 3, none⟩ (.int .i64 (sum + n0)) = W5 at *
        have hv6 := Lib.hid hv5.out.drew
        obtain ⟨X2, y1⟩ := hv6.out.tok
        obtain ⟨S2, g2, x1⟩ := hv6.out.tal
        have d4 := y1.c4
        have f4 := y1.f 4
        have t2 := x1.r
        dsimp only at d4 t2
        clear y1 x1 hv5
        refine wp_region_still_tail 13 (by kernel_rfl) (by kernel_rfl) ?_
        change wpStill _ _ (W5).drew (fun a' => wpList _ _ _ _ a' (W5).drew) _ _
        generalize (W5).drew = W6 at *
        simp only [List.take_succ_cons, List.take_zero, List.drop_succ_cons, List.drop_zero]
        repeat still_step
        refine wpStill_nil ?_
        have hv7 : Hid (VS w S X kb tb ⟨n, (a + 1), true, sum + n0, m2⟩ ⟨true, n0, n1, red⟩ (W6.setCell ⟨kb, 4, none⟩ (.int .i64 m2))) := hv6.out.setK 4 _ rfl
        go_upto_region 12 with fail
        clear d4 f4 t2 hv6
        generalize W6.setCell ⟨kb, 4, none⟩ (.int .i64 m2) = W7 at *
        clear hm1 hm2 hmm
        go_wp2
        go_ret2
        exact ⟨rfl, hv7⟩
end
end Go.Proofs.Ytobfjfmaicmkdaa
