
/-
  The program's token: a visit.
-/
import Derived.Test.YtobfjfmaicmkdaaUF
import Derived.Test.YtobfjfmaicmkdaaGZ
namespace Go.Proofs.Ytobfjfmaicmkdaa
open Go.ChangeShapes Go.WideShapes Go.ChangeAt Go.Shelf Go.RowKit Go.Lib Go.Sort Go.Deep Col
set_option linter.unusedVariables false
set_option linter.unusedSimpArgs false
set_option maxRecDepth 4000

section
variable {w w' wr : World} {b tb kb : Nat} {S X Y S0 X0 : Nat → Prop} {k k' : Tk} {t : Ta}
/-- A visit that is under way. -/
def PS (w : World) (S0 X0 : Nat → Prop) (kb tb : Nat) (k : Tk) (t : Ta) (wr : World) : Prop := ∃ S X, TkAt wr kb X k ∧ TaAt wr tb S t ∧ VStep w wr S0 X0 S X
theorem PS.start (hk : TkAt w kb X k) (ht : TaAt w tb S t) (hd : ∀ i, X i → ¬ S i) : PS w S X kb tb k t w := ⟨S, X, hk, ht, KeptOff.refl _ _, fun k e => .inl e, fun k e => .inl e, hd⟩
theorem PS.below (h : PS w S0 X0 kb tb k t wr) (hb : Below wr.heap.size wr w') : PS w S0 X0 kb tb k t w' := by
  obtain ⟨S, X, h1, h2, h3, h4, h5, h6⟩ := h
  exact ⟨S, X, h1.below hb, h2.below hb, h3.then_new (S' := fun _ => False) (.of_below hb) (fun k _ e => e.elim), h4, h5, h6⟩
theorem PS.tk (h1 : TkAt wr kb X k) (h2 : TaAt wr tb S t) (h3 : VStep w wr S0 X0 S X) (h4 : TkAt w' kb X k') (h5 : KeptOff X wr w') : PS w S0 X0 kb tb k' t w' := by
  obtain ⟨h3, a4, a5, a6⟩ := h3
  exact ⟨S, X, h4, h2.kept h5 (fun i e e2 => a6 i e2 e), h3.then_new h5 (fun k hk e => (a5 k e).elim .inr (fun e => by omega)), a4, a5, a6⟩
theorem PS.flip (h1 : TkAt wr kb X k) (h2 : TaAt wr tb S t) (h3 : VStep w wr S0 X0 S X) (hf : ∃ S', TaAt w' tb S' t.flip ∧ CStep wr w' S S') : PS w S0 X0 kb tb k t.flip w' := by
  obtain ⟨h3, h4, h5, h6⟩ := h3
  obtain ⟨S', h7, h8, h9⟩ := hf
  refine ⟨S', X, h1.kept h8 (fun i e e2 => h6 i e e2), h7, h3.then_new h8 (fun k hk e => (h4 k e).elim .inl (fun e => by omega)), fun k e => (h9 k e).elim (h4 k) (fun e => .inr (Nat.le_trans h3.size e)), h5, fun k e e2 => (h9 k e2).elim (h6 k e) (fun e3 => by have := h1.lt e; omega)⟩
theorem PS.callFlip (h : PS w S0 X0 kb tb k t wr) : Calls Try.prog 17 #[.pointer (some ⟨tb, 0, none⟩)] wr fun e w' => e = .returned (.int .i64 0) ∧ Hid (PS w S0 X0 kb tb k t.flip w') := by
  obtain ⟨S, X, h1, h2, h3⟩ := h
  refine (coFlip_any h2).mono ?_
  rintro e w' ⟨he, hq⟩
  exact ⟨he, PS.flip h1 h2 h3 hq.out⟩
theorem PS.callBegin (h : PS w S0 X0 kb tb k t wr) (c : Bool) : Calls Try.prog 27 #[.pointer (some ⟨kb, 0, none⟩), .int .i64 (colI c)] wr fun e w' => e = .returned (.tuple #[]) ∧ Hid (PS w S0 X0 kb tb ⟨k.n, k.at', c, 0, 4611686018427387904⟩ t w') := by
  obtain ⟨S, X, h1, h2, h3⟩ := h
  refine (coBegin_any h1 c).mono ?_
  rintro e w' ⟨he, hq⟩
  exact ⟨he, PS.tk h1 h2 h3 hq.out.1 hq.out.2⟩
theorem PS.setK (h : PS w S0 X0 kb tb k t wr) (o : Nat) (v : Value) (hn : 0 < k'.n) (e : (#[.int .i64 k.n, .int .i64 k.at', .int .i64 (colI k.cnt), .int .i64 k.sum, .int .i64 k.least] : Array Value).setIfInBounds o v = #[.int .i64 k'.n, .int .i64 k'.at', .int .i64 (colI k'.cnt), .int .i64 k'.sum, .int .i64 k'.least]) : PS w S0 X0 kb tb k' t (wr.setCell ⟨kb, o, none⟩ v) := by
  obtain ⟨S, X, h1, h2, h3⟩ := h
  have h4 := h1.set o v hn e
  exact PS.tk h1 h2 h3 h4.1 h4.2
theorem PS.tok (h : PS w S0 X0 kb tb k t wr) : ∃ X, TkAt wr kb X k := let ⟨S, X, h1, _⟩ := h; ⟨X, h1⟩
theorem PS.tal (h : PS w S0 X0 kb tb k t wr) : ∃ S, TaAt wr tb S t := let ⟨S, X, _, h1, _⟩ := h; ⟨S, h1⟩
/-- The next process. -/
def Tk.on (k : Tk) : Tk := ⟨k.n, if k.at' + 1 = k.n then 0 else k.at' + 1, k.cnt, k.sum, k.least⟩
set_option maxHeartbeats 1000000 in
theorem coOnward_any (h : TkAt w b X k) (hk : k.at' < k.n) (hn : k.n ≤ 16) : Calls Try.prog 36 #[.pointer (some ⟨b, 0, none⟩)] w fun e w' => e = .returned (.bool (decide (k.at' + 1 = k.n))) ∧ Hid (TkAt w' b X k.on ∧ KeptOff X w w') := by
  have mixed := mixed
  have hn0 := h.1.2
  have c0 := h.c0
  have c1 := h.c1
  have f1 := h.f 1
  obtain ⟨n, a, cnt, sum, least⟩ := k
  dsimp only at hk hn c0 c1
  have hw2 : IntKind.i64.wrap ((a : Int) + 1) = (a : Int) + 1 := IntWalk.i64_in _ (by omega)
  by_cases hl : a + 1 = n
  · subst hl
    rw [decide_eq_true rfl]
    have hs := h.set 1 (.int .i64 0) (k' := ⟨a + 1, 0, cnt, sum, least⟩) (Nat.succ_pos a) rfl
    have hbd : Below (w.setCell ⟨b, 1, none⟩ (.int .i64 0)).heap.size (w.setCell ⟨b, 1, none⟩ (.int .i64 0)) (w.setCell ⟨b, 1, none⟩ (.int .i64 0)).drew := (Below.refl _ _).drew
    have hf : Hid (TkAt (w.setCell ⟨b, 1, none⟩ (.int .i64 0)).drew b X (Tk.on ⟨a + 1, a, cnt, sum, least⟩) ∧ KeptOff X w (w.setCell ⟨b, 1, none⟩ (.int .i64 0)).drew) := by
      unfold Tk.on
      dsimp only
      rw [if_pos rfl]
      exact Lib.hid ⟨hs.1.below hbd, hs.2.trans ((KeptOff.of_below hbd : KeptOff (fun _ => False) _ _).mono (fun _ _ e => e.elim))⟩
    have hz0 : ((a + 1 : Nat) : Int) = (a : Int) + 1 := rfl
    rw [hz0] at c0
    clear hz0 hs hbd h
    have hw3 : ((a : Int) + 1).tmod ((a : Int) + 1) = 0 := Int.tmod_self
    have hw4 : ¬ (a : Int) + 1 = 0 := by omega
    have hw5 : IntKind.i64.wrap (0 : Int) = 0 := rfl
    have hx : Hid (∀ W, TkAt W b X (Tk.on ⟨a + 1, a, cnt, sum, least⟩) → W.cell? ⟨b, 1, none⟩ = some (.int .i64 0)) := Lib.hid (fun W h => by
      have := h.c1
      unfold Tk.on at this
      dsimp only at this
      rw [if_pos rfl] at this
      exact this)
    go_enter Try.func36, Try.ntmps36
    go_upto_region 1 with fail
    go_region
    generalize (w.setCell ⟨b, 1, none⟩ (.int .i64 0)).drew = W1 at *
    have d1 := hx.out W1 hf.out.1
    clear c0 c1 f1 hx
    go_wp2
    go_ret
    exact ⟨rfl, hf⟩
  · rw [decide_eq_false hl]
    have hs := h.set 1 (.int .i64 ((a : Int) + 1)) (k' := ⟨n, a + 1, cnt, sum, least⟩) hn0 rfl
    have hbd : Below (w.setCell ⟨b, 1, none⟩ (.int .i64 ((a : Int) + 1))).heap.size (w.setCell ⟨b, 1, none⟩ (.int .i64 ((a : Int) + 1))) (w.setCell ⟨b, 1, none⟩ (.int .i64 ((a : Int) + 1))).drew := (Below.refl _ _).drew
    have hf : Hid (TkAt (w.setCell ⟨b, 1, none⟩ (.int .i64 ((a : Int) + 1))).drew b X (Tk.on ⟨n, a, cnt, sum, least⟩) ∧ KeptOff X w (w.setCell ⟨b, 1, none⟩ (.int .i64 ((a : Int) + 1))).drew) := by
      unfold Tk.on
      dsimp only
      rw [if_neg hl]
      exact Lib.hid ⟨hs.1.below hbd, hs.2.trans ((KeptOff.of_below hbd : KeptOff (fun _ => False) _ _).mono (fun _ _ e => e.elim))⟩
    have hw3 : ((a : Int) + 1).tmod (n : Int) = (a : Int) + 1 := Int.tmod_eq_of_lt (by omega) (by omega)
    have hw4 : ¬ (n : Int) = 0 := by omega
    have hw4b : ¬ n = 0 := by omega
    have hw5 : ¬ (a : Int) + 1 = 0 := by omega
    have hw6 : ((a : Int) + 1 == 0) = false := by simp; omega
    have hx : Hid (∀ W, TkAt W b X (Tk.on ⟨n, a, cnt, sum, least⟩) → W.cell? ⟨b, 1, none⟩ = some (.int .i64 ((a : Int) + 1))) := Lib.hid (fun W h => by
      have := h.c1
      unfold Tk.on at this
      dsimp only at this
      rw [if_neg hl] at this
      exact this)
    have hl' := Lib.hid hl
    clear hs hbd h hl
    go_enter Try.func36, Try.ntmps36
    go_upto_region 1 with fail
    go_region
    generalize (w.setCell ⟨b, 1, none⟩ (.int .i64 ((a : Int) + 1))).drew = W1 at *
    have d1 := hx.out W1 hf.out.1
    clear c0 c1 f1 hx
    go_wp2
    go_ret
    exact ⟨rfl, hf⟩
theorem PS.callOnward (h : PS w S0 X0 kb tb k t wr) (hk : k.at' < k.n) (hn : k.n ≤ 16) : Calls Try.prog 36 #[.pointer (some ⟨kb, 0, none⟩)] wr fun e w' => e = .returned (.bool (decide (k.at' + 1 = k.n))) ∧ Hid (PS w S0 X0 kb tb k.on t w') := by
  obtain ⟨S, X, h1, h2, h3⟩ := h
  refine (coOnward_any h1 hk hn).mono ?_
  rintro e w' ⟨he, hq⟩
  exact ⟨he, PS.tk h1 h2 h3 hq.out.1 hq.out.2⟩
/-- Turning. -/
theorem coTurn_any (hk : TkAt w kb X k) (ht : TaAt w tb S t) (hd : ∀ i, X i → ¬ S i) (h1 : k.at' < k.n) (h2 : k.n ≤ 16) (hc : k.cnt = false) (l : Int) : Calls Try.prog 34 #[.pointer (some ⟨kb, 0, none⟩), .pointer (some ⟨tb, 0, none⟩), .int .i64 l] w fun e w' => e = .returned (.tuple #[.int .i64 (k.vis t l).2.2.1, .bool (k.vis t l).2.2.2]) ∧ Hid (PS w S X kb tb (k.vis t l).1 (k.vis t l).2.1 w') := by
  have h0 := (PS.start hk ht hd).callFlip
  obtain ⟨n, a, cnt, sum, least⟩ := k
  dsimp only at hc h1 h2
  subst hc
  have ho : Hid (∀ W, PS w S X kb tb ⟨n, a, false, sum, least⟩ t.flip W → _) := Lib.hid (fun W h => PS.callOnward h h1 h2)
  unfold Tk.on at ho
  dsimp only at ho
  unfold Tk.vis
  dsimp only
  rw [if_pos rfl]
  clear hk ht hd h1 h2
  by_cases hl : a + 1 = n
  · rw [if_pos hl, decide_eq_true hl] at ho
    rw [if_pos hl]
    clear hl
    have hbg : Hid (∀ W, PS w S X kb tb ⟨n, 0, false, sum, least⟩ t.flip W → _) := Lib.hid (fun W h => PS.callBegin h true)
    dsimp only
    go_enter Try.func34, Try.ntmps34
    go_upto_region 2 with (go_at_call 17; refine h0.mono ?_; rintro e W1 ⟨rfl, hv1⟩)
    go_upto_region 3 with (go_at_call 36; refine (ho.out W1 hv1.out).mono ?_; rintro e W2 ⟨rfl, hv2⟩)
    go_wp2_with (go_at_call 27; refine (hbg.out W2 hv2.out).mono ?_; rintro e W3 ⟨rfl, hv3⟩)
    go_ret2
    exact ⟨rfl, hv3⟩
  · rw [if_neg hl, decide_eq_false hl] at ho
    rw [if_neg hl]
    clear hl
    dsimp only
    go_enter Try.func34, Try.ntmps34
    go_upto_region 2 with (go_at_call 17; refine h0.mono ?_; rintro e W1 ⟨rfl, hv1⟩)
    go_wp2_with (go_at_call 36; refine (ho.out W1 hv1.out).mono ?_; rintro e W2 ⟨rfl, hv2⟩)
    go_ret2
    exact ⟨rfl, hv2⟩
/-- The two parts of a round, as the token's own functions. -/
def vsC (b : Nat) : Array Value := #[.func (.func 34) #[.pointer (some ⟨b, 0, none⟩)] #[], .func (.func 35) #[.pointer (some ⟨b, 0, none⟩)] #[]]
theorem infoV : (Try.prog.info? 77).map (·.size) = some 2 := by kernel_rfl
theorem undV : Try.prog.underlying 77 = some (.array 2 76) := by kernel_rfl
theorem coVisits_any (w : World) (b : Nat) : Calls Try.prog 33 #[.pointer (some ⟨b, 0, none⟩)] w fun e w' => e = .returned (.agg (vsC b)) ∧ Below w.heap.size w w' := by
  have hg : (w.alloc (.cells #[.nilFunc, .nilFunc] 77)).heap[w.heap.size]? = some (.cells #[.nilFunc, .nilFunc] 77 (0, 0)) := heap_alloc_new w _
  have hg2 := setRow_heap _ _ _ (vsC b) _ _ hg
  have hb : Below w.heap.size w ((w.alloc (.cells #[.nilFunc, .nilFunc] 77)).setRow w.heap.size (vsC b)) :=
    ((Below.refl _ w).alloc (Nat.le_refl _) _).trans ⟨rfl, rfl, rfl, by simp [World.setRow], fun k hk => setRow_other _ _ k _ (by omega)⟩
  have hu := undV
  have hf := Lib.hid (And.intro hg2 hb)
  clear hg2 hb
  go_enter Try.func33, Try.ntmps33
  go_wp2_with (refine wpList_store_row rfl 77 (.tmp 2) (.tmp 7) rfl w.heap.size (vsC b) rfl rfl 77 #[.nilFunc, .nilFunc] hg infoV rfl (by simp [vsC, Value.oneCell']) ?_)
  exact bodyPost_ret (results_cell_row rfl _ _ w.heap.size 77 (vsC b) (0, 0) _ rfl hf.out.1 hu rfl infoV) rfl ⟨rfl, hf.out.2⟩
theorem netI_col (t : Ta) (c : Bool) : netI t (colI c) = t.net c := by cases c <;> simp [netI, colI, Ta.net]
set_option maxHeartbeats 4000000 in
theorem coCount_any (hk : TkAt w kb X k) (ht : TaAt w tb S t) (hd : ∀ i, X i → ¬ S i) (hok : k.ok) (ho : Ta.small t) (hc : k.cnt = true) (l : Int) : Calls Try.prog 35 #[.pointer (some ⟨kb, 0, none⟩), .pointer (some ⟨tb, 0, none⟩), .int .i64 l] w fun e w' => e = .returned (.tuple #[.int .i64 (k.vis t l).2.2.1, .bool (k.vis t l).2.2.2]) ∧ Hid (PS w S X kb tb (k.vis t l).1 (k.vis t l).2.1 w') := by
  have mixed := mixed
  have hps := Lib.hid (PS.start hk ht hd)
  have hcol : ∀ p, Calls Try.prog 21 #[.pointer (some ⟨tb, 0, none⟩)] (wide w p) fun e w' => e = .returned (.int .i64 (colI t.c)) ∧ Below (wide w p).heap.size (wide w p) w' := fun p => coColour_any (ht.below (wide_below w p))
  have hoth : ∀ p, Calls Try.prog 31 #[.int .i64 (colI t.c)] (wide w p) fun e w' => e = .returned (.int .i64 (colI (!t.c))) ∧ wide w p = w' := fun p => coOther_any _ _
  have hnet : ∀ p, Calls Try.prog 22 #[.pointer (some ⟨tb, 0, none⟩), .int .i64 (colI (!t.c))] (wide w p) fun e w' => e = .returned (.int .i64 (t.net (!t.c))) ∧ Below (wide w p).heap.size (wide w p) w' := fun p => by
    have := coNet_any (ht.below (wide_below w p)) (colI (!t.c))
    rw [netI_col] at this
    exact this
  have hlt : kb < w.heap.size := hk.lt hk.2.1
  have y3 := hk.c3
  have c3 : ∀ p, (wide w p).cell? ⟨kb, 3, none⟩ = some (.int .i64 k.sum) := fun p => wide_cell p hlt y3
  have hn0 := Lib.hid hk.1.2
  obtain ⟨h1, h2, h3, h4⟩ := hok
  have hnb : -2305843009213693952 < t.net (!t.c) ∧ t.net (!t.c) < 2305843009213693952 := by
    unfold Ta.net
    split
    · exact ho.2
    · exact ho.1
  have hw : IntKind.i64.wrap (k.sum + t.net (!t.c)) = k.sum + t.net (!t.c) := IntWalk.i64_in _ (by omega)
  clear hk ht hd ho y3 h3 h4 hnb
  have h12 := Lib.hid (And.intro h1 h2)
  have hc' := Lib.hid hc
  clear h1 h2 hc
  go_enter Try.func35, Try.ntmps35
  go_upto_region 1 with fail
  refine wp_region_wide_tail 10 (by kernel_rfl) (by kernel_rfl) ?_
  simp only [List.take_succ_cons, List.take_zero, List.drop_succ_cons, List.drop_zero]
  repeat (first | quiet_step (exact Calls.wide_of (hcol _)) | quiet_step (exact Calls.wide_same (hoth _)) | quiet_step (exact Calls.wide_of (hnet _)))
  refine wpQuiet_nil ?_
  refine wide_all fun W1 hb1 => ?_
  clear hcol hoth hnet c3
  have hp1 := Lib.hid (hps.out.below hb1)
  obtain ⟨X1, y1⟩ := hp1.out.tok
  have f3 := y1.f 3
  have e3 := y1.c3
  have hlt1 : kb < W1.heap.size := y1.lt y1.2.1
  clear y1 hb1 hps hlt
  go_upto_region 2 with fail
  have hp2 := Lib.hid (hp1.out.setK (k' := ⟨k.n, k.at', k.cnt, k.sum + t.net (!t.c), k.least⟩) 3 (.int .i64 (k.sum + t.net (!t.c))) hn0.out rfl)
  clear hp1 e3 f3 hlt1 hw
  generalize W1.setCell ⟨kb, 3, none⟩ (.int .i64 (k.sum + t.net (!t.c))) = W2 at *
  obtain ⟨X2, y2⟩ := hp2.out.tok
  obtain ⟨S2, z2⟩ := hp2.out.tal
  have hy4 : Hid (∀ w, Below W2.heap.size W2 w → w.cell? ⟨kb, 4, none⟩ = some (.int .i64 k.least)) := Lib.hid (fun w hb => (y2.below hb).c4)
  have hred : Hid (∀ w, Below W2.heap.size W2 w → Calls Try.prog 23 #[.pointer (some ⟨tb, 0, none⟩)] w fun e w' => e = .returned (.int .i64 t.red) ∧ Below w.heap.size w w') := Lib.hid (fun w hb => coRed_any (z2.below hb))
  have hrx := Lib.hid z2.1.2
  have hvl : Hid (∀ W3 : World, Calls Try.prog 29 #[.slice (some ⟨W3.heap.size, 0, none⟩) 3 3] (W3.alloc (.cells #[.int .i64 k.least, .int .i64 l, .int .i64 t.red] 2)) fun e w' => e = .returned (.int .i64 (min (min k.least l) t.red)) ∧ W3.alloc (.cells #[.int .i64 k.least, .int .i64 l, .int .i64 t.red] 2) = w') := Lib.hid (fun W3 => vLeast_three (by simp) (by simp) (by simp) hrx.out)
  obtain ⟨mn, hmn⟩ : ∃ mn : Int, Hid (min (min k.least l) t.red = mn) := ⟨_, Lib.hid rfl⟩
  rw [hmn.out] at hvl
  clear y2 z2 hrx
  refine wp_region_Z (fun W => Below W2.heap.size W2 W) 12 (by kernel_rfl) ?_
  have hHd : Below W2.heap.size W2 W2.drew := (Below.refl _ _).drew
  refine wpAnyZ_take (i := 0) (oi := { dst := some 21, op := Op.move (Operand.tmp 0), type := 23, pos := "token.go:68", after := #[], guard := none }) (v := ?zv0_1) rfl (by kernel_rfl) (by kernel_rfl) (by kernel_rfl) (fun _ _ _ h => h) (by decide) (Or.inl ⟨by rfl, ?zy0_1⟩) (fun _ => hHd) ?zrest0_1
  case zy0_1 =>
    intro w _
    go_simp
    try with_reducible rfl
  try simp only [Act.put, List.setIfInBounds_toArray, List.set_cons_zero, List.set_cons_succ]
  refine wpAnyZ_take (i := 1) (oi := { dst := some 22, op := Op.move (Operand.tmp 0), type := 23, pos := "token.go:68", after := #[], guard := none }) (v := ?zv1_2) rfl (by kernel_rfl) (by kernel_rfl) (by kernel_rfl) (fun _ _ _ h => h) (by decide) (Or.inl ⟨by rfl, ?zy1_2⟩) (fun _ => hHd) ?zrest1_2
  case zy1_2 =>
    intro w _
    go_simp
    try with_reducible rfl
  try simp only [Act.put, List.setIfInBounds_toArray, List.set_cons_zero, List.set_cons_succ]
  refine wpAnyZ_take (i := 2) (oi := { dst := some 23, op := Op.nilCheck (Operand.tmp 22), type := 0, pos := "token.go:68", after := #[{ on := 1, ground := Ground.data }], guard := none }) (v := ?zv2_3) rfl (by kernel_rfl) (by kernel_rfl) (by kernel_rfl) (fun _ _ _ h => h) (by decide) (Or.inl ⟨by rfl, ?zy2_3⟩) (fun _ => hHd) ?zrest2_3
  case zy2_3 =>
    intro w _
    go_simp
    try with_reducible rfl
  try simp only [Act.put, List.setIfInBounds_toArray, List.set_cons_zero, List.set_cons_succ]
  refine wpAnyZ_take (i := 3) (oi := { dst := some 24, op := Op.fieldAddr 68 (Operand.tmp 23) 4, type := 0, pos := "token.go:68", after := #[{ on := 2, ground := Ground.data }], guard := none }) (v := ?zv3_4) rfl (by kernel_rfl) (by kernel_rfl) (by kernel_rfl) (fun _ _ _ h => h) (by decide) (Or.inl ⟨by rfl, ?zy3_4⟩) (fun _ => hHd) ?zrest3_4
  case zy3_4 =>
    intro w _
    go_simp
    try with_reducible rfl
  try simp only [Act.put, List.setIfInBounds_toArray, List.set_cons_zero, List.set_cons_succ]
  refine wpAnyZ_take (i := 5) (oi := { dst := some 26, op := Op.move (Operand.tmp 2), type := 2, pos := "token.go:68", after := #[], guard := none }) (v := ?zv5_5) rfl (by kernel_rfl) (by kernel_rfl) (by kernel_rfl) (fun _ _ _ h => h) (by decide) (Or.inl ⟨by rfl, ?zy5_5⟩) (fun _ => hHd) ?zrest5_5
  case zy5_5 =>
    intro w _
    go_simp
    try with_reducible rfl
  try simp only [Act.put, List.setIfInBounds_toArray, List.set_cons_zero, List.set_cons_succ]
  refine wpAnyZ_take (i := 6) (oi := { dst := some 27, op := Op.move (Operand.tmp 1), type := 33, pos := "token.go:68", after := #[], guard := none }) (v := ?zv6_6) rfl (by kernel_rfl) (by kernel_rfl) (by kernel_rfl) (fun _ _ _ h => h) (by decide) (Or.inl ⟨by rfl, ?zy6_6⟩) (fun _ => hHd) ?zrest6_6
  case zy6_6 =>
    intro w _
    go_simp
    try with_reducible rfl
  try simp only [Act.put, List.setIfInBounds_toArray, List.set_cons_zero, List.set_cons_succ]
  refine wpAnyZ_load (i := 4) (oi := { dst := some 25, op := Op.load 2 (Operand.tmp 24), type := 2, pos := "token.go:68", after := #[{ on := 3, ground := Ground.data }], guard := none }) (v := ?zv4_7) rfl (by kernel_rfl) (by kernel_rfl) (by kernel_rfl) (fun _ _ _ h => h) (by decide) (by kernel_rfl) (by kernel_rfl) (Or.inl ⟨by rfl, ?zy4_7⟩) hHd ?zrest4_7
  case zy4_7 =>
    intro w hSw
    have c := hy4.out w hSw
    go_simp
    try with_reducible rfl
  try simp only [Act.put, List.setIfInBounds_toArray, List.set_cons_zero, List.set_cons_succ]
  refine wpAnyZ_ready (rs := [7]) (by kernel_rfl) (by simp) ?_
  refine AllReadyZ.cons (o := { dst := some 28, op := Op.call { callee := Callee.value (Operand.func 23), args := #[Operand.tmp 27], argTypes := #[33] }, type := 2, pos := "token.go:68", after := #[{ on := 6, ground := Ground.data }], guard := none }) rfl (fun K hK => ?_) AllReadyZ.nil
  go_simp
  refine (hred.out _ hHd).mono ?_
  rintro e W3 ⟨rfl, hb3⟩
  have hHe : Below W2.heap.size W2 W3 := hHd.trans (hb3.mono hHd.size)
  have hp3 := Lib.hid ((hp2.out.below hHe).below ((Below.refl W3.heap.size W3).alloc (Nat.le_refl _) (.cells #[.int .i64 k.least, .int .i64 l, .int .i64 t.red] 2)))
  have hHf : Below W2.heap.size W2 (W3.alloc (.cells #[.int .i64 k.least, .int .i64 l, .int .i64 t.red] 2)) := hHe.alloc hHe.size _
  refine hK.out _ _ (fun _ => hHe) ?_
  clear hK K
  try simp only [Act.put, List.setIfInBounds_toArray, List.set_cons_zero, List.set_cons_succ]
  refine wpAnyZ_ready (rs := [8]) (by kernel_rfl) (by simp) ?_
  refine AllReadyZ.cons (o := { dst := some 29, op := Op.buildSlice 58 3 #[(0, Operand.tmp 25), (1, Operand.tmp 26), (2, Operand.tmp 28)], type := 58, pos := "token.go:68", after := #[{ on := 4, ground := Ground.data }, { on := 5, ground := Ground.data }, { on := 7, ground := Ground.data }], guard := none }) rfl (fun K hK => ?_) AllReadyZ.nil
  go_simp
  refine hK.out _ _ (fun _ => hHf) ?_
  clear hK K
  try simp only [Act.put, List.setIfInBounds_toArray, List.set_cons_zero, List.set_cons_succ]
  refine wpAnyZ_ready (rs := [9]) (by kernel_rfl) (by simp) ?_
  refine AllReadyZ.cons (o := { dst := some 30, op := Op.call { callee := Callee.value (Operand.func 29), args := #[Operand.tmp 29], argTypes := #[58] }, type := 2, pos := "token.go:68", after := #[{ on := 8, ground := Ground.data }, { on := 7, ground := Ground.chain }], guard := none }) rfl (fun K hK => ?_) AllReadyZ.nil
  go_simp
  refine (hvl.out W3).mono ?_
  rintro e W4 ⟨rfl, hW4⟩
  subst hW4
  generalize W3.alloc (.cells #[.int .i64 k.least, .int .i64 l, .int .i64 t.red] 2) = W4 at *
  obtain ⟨X4, y4⟩ := hp3.out.tok
  have e4 := y4.c4
  have f4 := y4.f 4
  have hlt4 : kb < W4.heap.size := y4.lt y4.2.1
  clear y4
  refine hK.out _ _ (fun _ => hHf) ?_
  clear hK K
  try simp only [Act.put, List.setIfInBounds_toArray, List.set_cons_zero, List.set_cons_succ]
  refine wpAnyZ_take (i := 10) (oi := { dst := some 31, op := Op.nilCheck (Operand.tmp 21), type := 0, pos := "token.go:68", after := #[{ on := 0, ground := Ground.data }, { on := 0, ground := Ground.phase }, { on := 1, ground := Ground.phase }, { on := 2, ground := Ground.phase }, { on := 3, ground := Ground.phase }, { on := 4, ground := Ground.phase }, { on := 5, ground := Ground.phase }, { on := 6, ground := Ground.phase }, { on := 7, ground := Ground.phase }, { on := 8, ground := Ground.phase }, { on := 9, ground := Ground.phase }], guard := none }) (v := ?zv10_8) rfl (by kernel_rfl) (by kernel_rfl) (by kernel_rfl) (fun _ _ _ h => h) (by decide) (Or.inl ⟨by rfl, ?zy10_8⟩) (fun _ => hHf) ?zrest10_8
  case zy10_8 =>
    intro w _
    go_simp
    try with_reducible rfl
  try simp only [Act.put, List.setIfInBounds_toArray, List.set_cons_zero, List.set_cons_succ]
  refine wpAnyZ_take (i := 11) (oi := { dst := some 32, op := Op.fieldAddr 68 (Operand.tmp 31) 4, type := 0, pos := "token.go:68", after := #[{ on := 10, ground := Ground.data }, { on := 0, ground := Ground.phase }, { on := 1, ground := Ground.phase }, { on := 2, ground := Ground.phase }, { on := 3, ground := Ground.phase }, { on := 4, ground := Ground.phase }, { on := 5, ground := Ground.phase }, { on := 6, ground := Ground.phase }, { on := 7, ground := Ground.phase }, { on := 8, ground := Ground.phase }, { on := 9, ground := Ground.phase }], guard := none }) (v := ?zv11_9) rfl (by kernel_rfl) (by kernel_rfl) (by kernel_rfl) (fun _ _ _ h => h) (by decide) (Or.inl ⟨by rfl, ?zy11_9⟩) (fun _ => hHf) ?zrest11_9
  case zy11_9 =>
    intro w _
    go_simp
    try with_reducible rfl
  try simp only [Act.put, List.setIfInBounds_toArray, List.set_cons_zero, List.set_cons_succ]
  refine wpAnyZ_ready (rs := [12]) (by kernel_rfl) (by simp) ?_
  refine AllReadyZ.cons (o := { dst := none, op := Op.store 2 (Operand.tmp 32) (Operand.tmp 30), type := 0, pos := "token.go:68", after := #[{ on := 11, ground := Ground.data }, { on := 9, ground := Ground.data }, { on := 9, ground := Ground.chain }, { on := 0, ground := Ground.phase }, { on := 1, ground := Ground.phase }, { on := 2, ground := Ground.phase }, { on := 3, ground := Ground.phase }, { on := 4, ground := Ground.phase }, { on := 5, ground := Ground.phase }, { on := 6, ground := Ground.phase }, { on := 7, ground := Ground.phase }, { on := 8, ground := Ground.phase }, { on := 9, ground := Ground.phase }], guard := none }) rfl (fun K hK => ?_) AllReadyZ.nil
  go_simp
  refine hK.out _ _ (fun h => absurd h (by decide)) ?_
  clear hK K
  try simp only [Act.put, List.setIfInBounds_toArray, List.set_cons_zero, List.set_cons_succ]
  refine wpAnyZ_done (by kernel_rfl) ?_ _
  have hp5 := Lib.hid (hp3.out.setK (k' := ⟨k.n, k.at', k.cnt, k.sum + t.net (!t.c), mn⟩) 4 (.int .i64 mn) hn0.out rfl)
  clear hHd hHe hHf hp2 hp3 e4 f4 hlt4 hvl hred hy4
  generalize W4.setCell ⟨kb, 4, none⟩ (.int .i64 mn) = W5 at *
  obtain ⟨h1, h2⟩ := h12.out
  have ho : Hid (∀ W, PS w S X kb tb ⟨k.n, k.at', k.cnt, k.sum + t.net (!t.c), mn⟩ t W → _) := Lib.hid (fun W h => PS.callOnward h h1 h2)
  unfold Tk.on at ho
  dsimp only at ho
  have hcc := hc'.out
  have hvn : ¬ k.cnt = false := by rw [hcc]; decide
  clear h1 h2 h12
  by_cases hl : k.at' + 1 = k.n
  · rw [if_pos hl, decide_eq_true hl] at ho
    by_cases hs : k.sum + t.net (!t.c) = 0
    · have hvis : k.vis t l = (⟨k.n, 0, false, 0, 4611686018427387904⟩, t, mn, true) := by
        unfold Tk.vis
        rw [if_neg hvn, if_pos hl, if_pos hs, hmn.out]
      rw [hs] at ho hp5
      have hvis' := Lib.hid hvis
      have hbg : Hid (∀ W, PS w S X kb tb ⟨k.n, 0, k.cnt, 0, mn⟩ t W → _) := Lib.hid (fun W h => PS.callBegin h false)
      clear hvis hcc hvn hl hmn hs hn0 hc'
      go_upto_region 5 with (go_at_call 36; refine (ho.out W5 hp5.out).mono ?_; rintro e W6 ⟨rfl, hv6⟩)
      obtain ⟨X6, y6⟩ := hv6.out.tok
      have e3 := y6.c3
      have e4 := y6.c4
      dsimp only at e3 e4
      clear y6 ho hp5
      go_wp2_with (go_at_call 27; refine (hbg.out W6 hv6.out).mono ?_; rintro e W7 ⟨rfl, hv7⟩)
      go_ret2
      rw [hvis'.out]
      exact ⟨rfl, hv7⟩
    · have hvis : k.vis t l = (⟨k.n, 0, true, 0, 4611686018427387904⟩, t, 0, false) := by
        unfold Tk.vis
        rw [if_neg hvn, if_pos hl, if_neg hs]
      have hvis' := Lib.hid hvis
      have hbg : Hid (∀ W, PS w S X kb tb ⟨k.n, 0, k.cnt, k.sum + t.net (!t.c), mn⟩ t W → _) := Lib.hid (fun W h => PS.callBegin h true)
      clear hvis hcc hvn hl hmn hn0 hc'
      generalize k.sum + t.net (!t.c) = sm at *
      have hs2 : (sm == 0) = false := by simp [hs]
      have hs3 : (sm != 0) = true := by simp [hs]
      go_upto_region 5 with (go_at_call 36; refine (ho.out W5 hp5.out).mono ?_; rintro e W6 ⟨rfl, hv6⟩)
      obtain ⟨X6, y6⟩ := hv6.out.tok
      have e3 := y6.c3
      dsimp only at e3
      clear y6 ho hp5
      go_wp2_with (go_at_call 27; refine (hbg.out W6 hv6.out).mono ?_; rintro e W7 ⟨rfl, hv7⟩)
      go_ret2
      rw [hvis'.out]
      exact ⟨rfl, hv7⟩
  · rw [if_neg hl, decide_eq_false hl] at ho
    have hvis : k.vis t l = (⟨k.n, k.at' + 1, k.cnt, k.sum + t.net (!t.c), mn⟩, t, 0, false) := by
      unfold Tk.vis
      rw [if_neg hvn, if_neg hl, hcc, hmn.out]
    have hvis' := Lib.hid hvis
    clear hvis hcc hvn hl hmn hn0 hc'
    go_wp2_with (go_at_call 36; refine (ho.out W5 hp5.out).mono ?_; rintro e W6 ⟨rfl, hv6⟩)
    go_ret2
    rw [hvis'.out]
    exact ⟨rfl, hv6⟩
theorem idxV0 (f g : Value) (w : World) : (Instr.index 77 (.agg #[f, g]) (.int .i64 0)).run Try.prog w = .ok f w := by kernel_rfl
theorem idxV1 (f g : Value) (w : World) : (Instr.index 77 (.agg #[f, g]) (.int .i64 1)).run Try.prog w = .ok g w := by kernel_rfl
theorem coVisit_any (h : TkAt w kb X k) (ht : TaAt w tb S t) (hd : ∀ i, X i → ¬ S i) (hk : k.ok) (ho : Ta.small t) (l : Int) : Calls Try.prog 19 #[.pointer (some ⟨kb, 0, none⟩), .pointer (some ⟨tb, 0, none⟩), .int .i64 l] w fun e w' => e = .returned (.tuple #[.int .i64 (k.vis t l).2.2.1, .bool (k.vis t l).2.2.2, .int .i64 0]) ∧ Hid (∃ S' X', TkAt w' kb X' (k.vis t l).1 ∧ TaAt w' tb S' (k.vis t l).2.1 ∧ VStep w w' S X S' X') := by
  have mixed := mixed
  have hmk := coKOk_any h
  have hmt := coOk_any ht
  have hvs : ∀ W, Calls Try.prog 33 #[.pointer (some ⟨kb, 0, none⟩)] W fun e w' => e = .returned (.agg (vsC kb)) ∧ Below W.heap.size W w' := fun W => coVisits_any _ _
  simp only [vsC] at hvs
  have hlt : kb < w.heap.size := h.lt h.2.1
  have c2 : Hid (∀ W, Below w.heap.size w W → W.cell? ⟨kb, 2, none⟩ = some (.int .i64 (colI k.cnt))) := Lib.hid (fun W hb => (h.below hb).c2)
  cases hc : k.cnt with
  | false =>
    have hfin : Hid (∀ W, Below w.heap.size w W → Calls Try.prog 34 #[.pointer (some ⟨kb, 0, none⟩), .pointer (some ⟨tb, 0, none⟩), .int .i64 l] W fun e w' => e = .returned (.tuple #[.int .i64 (k.vis t l).2.2.1, .bool (k.vis t l).2.2.2]) ∧ Hid (∃ S' X', TkAt w' kb X' (k.vis t l).1 ∧ TaAt w' tb S' (k.vis t l).2.1 ∧ VStep w w' S X S' X')) := by
      refine Lib.hid (fun W hb => (coTurn_any (h.below hb) (ht.below hb) hd hk.1 hk.2.1 hc l).mono ?_)
      rintro e w' ⟨he, hq⟩
      obtain ⟨S', X', q1, q2, q3, q4, q5, q6⟩ := hq.out
      exact ⟨he, S', X', q1, q2, ((KeptOff.of_below hb : KeptOff (fun _ => False) _ _).mono (fun _ _ e => e.elim)).trans q3, fun k e => (q4 k e).elim .inl (fun e => .inr (Nat.le_trans hb.size e)), fun k e => (q5 k e).elim .inl (fun e => .inr (Nat.le_trans hb.size e)), q6⟩
    rw [hc] at c2
    simp only [colI, Bool.false_eq_true, if_false] at c2
    clear h ht hd hk ho hc
    go_enter Try.func19, Try.ntmps19
    go_upto_region 3 with first | (go_at_call 32; refine hmk.mono ?_; rintro e w' ⟨rfl, rfl⟩) | (go_at_call 28; refine hmt.mono ?_; rintro e w' ⟨rfl, rfl⟩)
    refine wp_region_Z (fun W => Below w.heap.size w W) 6 (by kernel_rfl) ?_
    have hHd : Below w.heap.size w w.drew := (Below.refl _ _).drew
    refine wpAnyZ_take (i := 0) (oi := { dst := some 20, op := Op.move (Operand.tmp 0), type := 23, pos := "token.go:97", after := #[], guard := none }) (v := ?zv0_10) rfl (by kernel_rfl) (by kernel_rfl) (by kernel_rfl) (fun _ _ _ h => h) (by decide) (Or.inl ⟨by rfl, ?zy0_10⟩) (fun _ => hHd) ?zrest0_10
    case zy0_10 =>
      intro w _
      go_simp
      try with_reducible rfl
    try simp only [Act.put, List.setIfInBounds_toArray, List.set_cons_zero, List.set_cons_succ]
    refine wpAnyZ_take (i := 2) (oi := { dst := some 22, op := Op.move (Operand.tmp 0), type := 23, pos := "token.go:97", after := #[], guard := none }) (v := ?zv2_11) rfl (by kernel_rfl) (by kernel_rfl) (by kernel_rfl) (fun _ _ _ h => h) (by decide) (Or.inl ⟨by rfl, ?zy2_11⟩) (fun _ => hHd) ?zrest2_11
    case zy2_11 =>
      intro w _
      go_simp
      try with_reducible rfl
    try simp only [Act.put, List.setIfInBounds_toArray, List.set_cons_zero, List.set_cons_succ]
    refine wpAnyZ_take (i := 3) (oi := { dst := some 23, op := Op.nilCheck (Operand.tmp 22), type := 0, pos := "token.go:97", after := #[{ on := 2, ground := Ground.data }], guard := none }) (v := ?zv3_12) rfl (by kernel_rfl) (by kernel_rfl) (by kernel_rfl) (fun _ _ _ h => h) (by decide) (Or.inl ⟨by rfl, ?zy3_12⟩) (fun _ => hHd) ?zrest3_12
    case zy3_12 =>
      intro w _
      go_simp
      try with_reducible rfl
    try simp only [Act.put, List.setIfInBounds_toArray, List.set_cons_zero, List.set_cons_succ]
    refine wpAnyZ_take (i := 4) (oi := { dst := some 24, op := Op.fieldAddr 68 (Operand.tmp 23) 2, type := 0, pos := "token.go:97", after := #[{ on := 3, ground := Ground.data }], guard := none }) (v := ?zv4_13) rfl (by kernel_rfl) (by kernel_rfl) (by kernel_rfl) (fun _ _ _ h => h) (by decide) (Or.inl ⟨by rfl, ?zy4_13⟩) (fun _ => hHd) ?zrest4_13
    case zy4_13 =>
      intro w _
      go_simp
      try with_reducible rfl
    try simp only [Act.put, List.setIfInBounds_toArray, List.set_cons_zero, List.set_cons_succ]
    refine wpAnyZ_take (i := 7) (oi := { dst := some 27, op := Op.move (Operand.tmp 1), type := 33, pos := "token.go:97", after := #[], guard := none }) (v := ?zv7_14) rfl (by kernel_rfl) (by kernel_rfl) (by kernel_rfl) (fun _ _ _ h => h) (by decide) (Or.inl ⟨by rfl, ?zy7_14⟩) (fun _ => hHd) ?zrest7_14
    case zy7_14 =>
      intro w _
      go_simp
      try with_reducible rfl
    try simp only [Act.put, List.setIfInBounds_toArray, List.set_cons_zero, List.set_cons_succ]
    refine wpAnyZ_take (i := 8) (oi := { dst := some 28, op := Op.move (Operand.tmp 2), type := 2, pos := "token.go:97", after := #[], guard := none }) (v := ?zv8_15) rfl (by kernel_rfl) (by kernel_rfl) (by kernel_rfl) (fun _ _ _ h => h) (by decide) (Or.inl ⟨by rfl, ?zy8_15⟩) (fun _ => hHd) ?zrest8_15
    case zy8_15 =>
      intro w _
      go_simp
      try with_reducible rfl
    try simp only [Act.put, List.setIfInBounds_toArray, List.set_cons_zero, List.set_cons_succ]
    refine wpAnyZ_load (i := 5) (oi := { dst := some 25, op := Op.load 3 (Operand.tmp 24), type := 3, pos := "token.go:97", after := #[{ on := 4, ground := Ground.data }], guard := none }) (v := ?zv5_16) rfl (by kernel_rfl) (by kernel_rfl) (by kernel_rfl) (fun _ _ _ h => h) (by decide) (by kernel_rfl) (by kernel_rfl) (Or.inl ⟨by rfl, ?zy5_16⟩) hHd ?zrest5_16
    case zy5_16 =>
      intro w hSw
      have c := c2.out w hSw
      go_simp
      try with_reducible rfl
    try simp only [Act.put, List.setIfInBounds_toArray, List.set_cons_zero, List.set_cons_succ]
    refine wpAnyZ_ready (rs := [1]) (by kernel_rfl) (by simp) ?_
    refine AllReadyZ.cons (o := { dst := some 21, op := Op.call { callee := Callee.value (Operand.func 33), args := #[Operand.tmp 20], argTypes := #[23] }, type := 77, pos := "token.go:97", after := #[{ on := 0, ground := Ground.data }], guard := none }) rfl (fun K hK => ?_) AllReadyZ.nil
    go_simp
    refine (hvs _).mono ?_
    rintro e W1 ⟨rfl, hb1⟩
    have hHe : Below w.heap.size w W1 := hHd.trans (hb1.mono hHd.size)
    have hix := @idxV0
    refine hK.out _ _ (fun _ => hHe) ?_
    clear hK K
    try simp only [Act.put, List.setIfInBounds_toArray, List.set_cons_zero, List.set_cons_succ]
    refine wpAnyZ_ready (rs := [6]) (by kernel_rfl) (by simp) ?_
    refine AllReadyZ.cons (o := { dst := some 26, op := Op.index 77 (Operand.tmp 21) (Operand.tmp 25), type := 76, pos := "token.go:97", after := #[{ on := 1, ground := Ground.data }, { on := 5, ground := Ground.data }], guard := none }) rfl (fun K hK => ?_) AllReadyZ.nil
    go_simp
    refine hK.out _ _ (fun h => absurd h (by decide)) ?_
    clear hK K
    try simp only [Act.put, List.setIfInBounds_toArray, List.set_cons_zero, List.set_cons_succ]
    refine wpAnyZ_ready (rs := [9]) (by kernel_rfl) (by simp) ?_
    refine AllReadyZ.cons (o := { dst := some 29, op := Op.call { callee := Callee.value (Operand.tmp 26), args := #[Operand.tmp 27, Operand.tmp 28], argTypes := #[33, 2] }, type := 48, pos := "token.go:97", after := #[{ on := 6, ground := Ground.data }, { on := 7, ground := Ground.data }, { on := 8, ground := Ground.data }, { on := 1, ground := Ground.chain }], guard := none }) rfl (fun K hK => ?_) AllReadyZ.nil
    clear hix
    go_simp
    refine (hfin.out W1 hHe).mono ?_
    rintro e w2 ⟨rfl, hq⟩
    refine hK.out _ _ (fun h => absurd h (by decide)) ?_
    clear hK K
    try simp only [Act.put, List.setIfInBounds_toArray, List.set_cons_zero, List.set_cons_succ]
    refine wpAnyZ_take (i := 10) (oi := { dst := some 19, op := Op.move (Operand.tmp 29), type := 48, pos := "token.go:97", after := #[{ on := 9, ground := Ground.data }], guard := none }) (v := ?zv10_17) rfl (by kernel_rfl) (by kernel_rfl) (by kernel_rfl) (fun _ _ _ h => h) (by decide) (Or.inl ⟨by rfl, ?zy10_17⟩) (fun h => absurd h (by decide)) ?zrest10_17
    case zy10_17 =>
      intro w _
      go_simp
      try with_reducible rfl
    try simp only [Act.put, List.setIfInBounds_toArray, List.set_cons_zero, List.set_cons_succ]
    refine wpAnyZ_take (i := 11) (oi := { dst := some 30, op := Op.extract (Operand.tmp 19) 0, type := 2, pos := "token.go:97", after := #[{ on := 10, ground := Ground.data }], guard := none }) (v := ?zv11_18) rfl (by kernel_rfl) (by kernel_rfl) (by kernel_rfl) (fun _ _ _ h => h) (by decide) (Or.inl ⟨by rfl, ?zy11_18⟩) (fun h => absurd h (by decide)) ?zrest11_18
    case zy11_18 =>
      intro w _
      go_simp
      try with_reducible rfl
    try simp only [Act.put, List.setIfInBounds_toArray, List.set_cons_zero, List.set_cons_succ]
    refine wpAnyZ_take (i := 12) (oi := { dst := some 31, op := Op.extract (Operand.tmp 19) 1, type := 4, pos := "token.go:97", after := #[{ on := 10, ground := Ground.data }, { on := 13, ground := Ground.gcOnly Departure.lateStores }], guard := none }) (v := ?zv12_19) rfl (by kernel_rfl) (by kernel_rfl) (by kernel_rfl) (fun _ _ _ h => h) (by decide) (Or.inl ⟨by rfl, ?zy12_19⟩) (fun h => absurd h (by decide)) ?zrest12_19
    case zy12_19 =>
      intro w _
      go_simp
      try with_reducible rfl
    try simp only [Act.put, List.setIfInBounds_toArray, List.set_cons_zero, List.set_cons_succ]
    refine wpAnyZ_take (i := 13) (oi := { dst := some 9, op := Op.assign (Operand.tmp 30), type := 2, pos := "token.go:97", after := #[{ on := 11, ground := Ground.data }, { on := 9, ground := Ground.chain }, { on := 0, ground := Ground.phase }, { on := 1, ground := Ground.phase }, { on := 2, ground := Ground.phase }, { on := 3, ground := Ground.phase }, { on := 4, ground := Ground.phase }, { on := 5, ground := Ground.phase }, { on := 6, ground := Ground.phase }, { on := 7, ground := Ground.phase }, { on := 8, ground := Ground.phase }, { on := 9, ground := Ground.phase }, { on := 10, ground := Ground.phase }, { on := 11, ground := Ground.phase }, { on := 12, ground := Ground.textOnly Departure.lateStores }], guard := none }) (v := ?zv13_20) rfl (by kernel_rfl) (by kernel_rfl) (by kernel_rfl) (fun _ _ _ h => h) (by decide) (Or.inl ⟨by rfl, ?zy13_20⟩) (fun h => absurd h (by decide)) ?zrest13_20
    case zy13_20 =>
      intro w _
      go_simp
      try with_reducible rfl
    try simp only [Act.put, List.setIfInBounds_toArray, List.set_cons_zero, List.set_cons_succ]
    refine wpAnyZ_take (i := 14) (oi := { dst := some 10, op := Op.assign (Operand.tmp 31), type := 4, pos := "token.go:97", after := #[{ on := 12, ground := Ground.data }, { on := 13, ground := Ground.chain }, { on := 0, ground := Ground.phase }, { on := 1, ground := Ground.phase }, { on := 2, ground := Ground.phase }, { on := 3, ground := Ground.phase }, { on := 4, ground := Ground.phase }, { on := 5, ground := Ground.phase }, { on := 6, ground := Ground.phase }, { on := 7, ground := Ground.phase }, { on := 8, ground := Ground.phase }, { on := 9, ground := Ground.phase }, { on := 10, ground := Ground.phase }, { on := 11, ground := Ground.phase }, { on := 12, ground := Ground.phase }, { on := 13, ground := Ground.phase }], guard := none }) (v := ?zv14_21) rfl (by kernel_rfl) (by kernel_rfl) (by kernel_rfl) (fun _ _ _ h => h) (by decide) (Or.inl ⟨by rfl, ?zy14_21⟩) (fun h => absurd h (by decide)) ?zrest14_21
    case zy14_21 =>
      intro w _
      go_simp
      try with_reducible rfl
    try simp only [Act.put, List.setIfInBounds_toArray, List.set_cons_zero, List.set_cons_succ]
    refine wpAnyZ_done (by kernel_rfl) ?_ _
    clear hHd hHe hvs c2 hmk hmt hfin hb1
    go_wp2
    go_ret3
    exact ⟨rfl, hq⟩
  | true =>
    have hfin : Hid (∀ W, Below w.heap.size w W → Calls Try.prog 35 #[.pointer (some ⟨kb, 0, none⟩), .pointer (some ⟨tb, 0, none⟩), .int .i64 l] W fun e w' => e = .returned (.tuple #[.int .i64 (k.vis t l).2.2.1, .bool (k.vis t l).2.2.2]) ∧ Hid (∃ S' X', TkAt w' kb X' (k.vis t l).1 ∧ TaAt w' tb S' (k.vis t l).2.1 ∧ VStep w w' S X S' X')) := by
      refine Lib.hid (fun W hb => (coCount_any (h.below hb) (ht.below hb) hd hk ho hc l).mono ?_)
      rintro e w' ⟨he, hq⟩
      obtain ⟨S', X', q1, q2, q3, q4, q5, q6⟩ := hq.out
      exact ⟨he, S', X', q1, q2, ((KeptOff.of_below hb : KeptOff (fun _ => False) _ _).mono (fun _ _ e => e.elim)).trans q3, fun k e => (q4 k e).elim .inl (fun e => .inr (Nat.le_trans hb.size e)), fun k e => (q5 k e).elim .inl (fun e => .inr (Nat.le_trans hb.size e)), q6⟩
    rw [hc] at c2
    simp only [colI, if_true] at c2
    clear h ht hd hk ho hc
    go_enter Try.func19, Try.ntmps19
    go_upto_region 3 with first | (go_at_call 32; refine hmk.mono ?_; rintro e w' ⟨rfl, rfl⟩) | (go_at_call 28; refine hmt.mono ?_; rintro e w' ⟨rfl, rfl⟩)
    refine wp_region_Z (fun W => Below w.heap.size w W) 6 (by kernel_rfl) ?_
    have hHd : Below w.heap.size w w.drew := (Below.refl _ _).drew
    refine wpAnyZ_take (i := 0) (oi := { dst := some 20, op := Op.move (Operand.tmp 0), type := 23, pos := "token.go:97", after := #[], guard := none }) (v := ?zv0_22) rfl (by kernel_rfl) (by kernel_rfl) (by kernel_rfl) (fun _ _ _ h => h) (by decide) (Or.inl ⟨by rfl, ?zy0_22⟩) (fun _ => hHd) ?zrest0_22
    case zy0_22 =>
      intro w _
      go_simp
      try with_reducible rfl
    try simp only [Act.put, List.setIfInBounds_toArray, List.set_cons_zero, List.set_cons_succ]
    refine wpAnyZ_take (i := 2) (oi := { dst := some 22, op := Op.move (Operand.tmp 0), type := 23, pos := "token.go:97", after := #[], guard := none }) (v := ?zv2_23) rfl (by kernel_rfl) (by kernel_rfl) (by kernel_rfl) (fun _ _ _ h => h) (by decide) (Or.inl ⟨by rfl, ?zy2_23⟩) (fun _ => hHd) ?zrest2_23
    case zy2_23 =>
      intro w _
      go_simp
      try with_reducible rfl
    try simp only [Act.put, List.setIfInBounds_toArray, List.set_cons_zero, List.set_cons_succ]
    refine wpAnyZ_take (i := 3) (oi := { dst := some 23, op := Op.nilCheck (Operand.tmp 22), type := 0, pos := "token.go:97", after := #[{ on := 2, ground := Ground.data }], guard := none }) (v := ?zv3_24) rfl (by kernel_rfl) (by kernel_rfl) (by kernel_rfl) (fun _ _ _ h => h) (by decide) (Or.inl ⟨by rfl, ?zy3_24⟩) (fun _ => hHd) ?zrest3_24
    case zy3_24 =>
      intro w _
      go_simp
      try with_reducible rfl
    try simp only [Act.put, List.setIfInBounds_toArray, List.set_cons_zero, List.set_cons_succ]
    refine wpAnyZ_take (i := 4) (oi := { dst := some 24, op := Op.fieldAddr 68 (Operand.tmp 23) 2, type := 0, pos := "token.go:97", after := #[{ on := 3, ground := Ground.data }], guard := none }) (v := ?zv4_25) rfl (by kernel_rfl) (by kernel_rfl) (by kernel_rfl) (fun _ _ _ h => h) (by decide) (Or.inl ⟨by rfl, ?zy4_25⟩) (fun _ => hHd) ?zrest4_25
    case zy4_25 =>
      intro w _
      go_simp
      try with_reducible rfl
    try simp only [Act.put, List.setIfInBounds_toArray, List.set_cons_zero, List.set_cons_succ]
    refine wpAnyZ_take (i := 7) (oi := { dst := some 27, op := Op.move (Operand.tmp 1), type := 33, pos := "token.go:97", after := #[], guard := none }) (v := ?zv7_26) rfl (by kernel_rfl) (by kernel_rfl) (by kernel_rfl) (fun _ _ _ h => h) (by decide) (Or.inl ⟨by rfl, ?zy7_26⟩) (fun _ => hHd) ?zrest7_26
    case zy7_26 =>
      intro w _
      go_simp
      try with_reducible rfl
    try simp only [Act.put, List.setIfInBounds_toArray, List.set_cons_zero, List.set_cons_succ]
    refine wpAnyZ_take (i := 8) (oi := { dst := some 28, op := Op.move (Operand.tmp 2), type := 2, pos := "token.go:97", after := #[], guard := none }) (v := ?zv8_27) rfl (by kernel_rfl) (by kernel_rfl) (by kernel_rfl) (fun _ _ _ h => h) (by decide) (Or.inl ⟨by rfl, ?zy8_27⟩) (fun _ => hHd) ?zrest8_27
    case zy8_27 =>
      intro w _
      go_simp
      try with_reducible rfl
    try simp only [Act.put, List.setIfInBounds_toArray, List.set_cons_zero, List.set_cons_succ]
    refine wpAnyZ_load (i := 5) (oi := { dst := some 25, op := Op.load 3 (Operand.tmp 24), type := 3, pos := "token.go:97", after := #[{ on := 4, ground := Ground.data }], guard := none }) (v := ?zv5_28) rfl (by kernel_rfl) (by kernel_rfl) (by kernel_rfl) (fun _ _ _ h => h) (by decide) (by kernel_rfl) (by kernel_rfl) (Or.inl ⟨by rfl, ?zy5_28⟩) hHd ?zrest5_28
    case zy5_28 =>
      intro w hSw
      have c := c2.out w hSw
      go_simp
      try with_reducible rfl
    try simp only [Act.put, List.setIfInBounds_toArray, List.set_cons_zero, List.set_cons_succ]
    refine wpAnyZ_ready (rs := [1]) (by kernel_rfl) (by simp) ?_
    refine AllReadyZ.cons (o := { dst := some 21, op := Op.call { callee := Callee.value (Operand.func 33), args := #[Operand.tmp 20], argTypes := #[23] }, type := 77, pos := "token.go:97", after := #[{ on := 0, ground := Ground.data }], guard := none }) rfl (fun K hK => ?_) AllReadyZ.nil
    go_simp
    refine (hvs _).mono ?_
    rintro e W1 ⟨rfl, hb1⟩
    have hHe : Below w.heap.size w W1 := hHd.trans (hb1.mono hHd.size)
    have hix := @idxV1
    refine hK.out _ _ (fun _ => hHe) ?_
    clear hK K
    try simp only [Act.put, List.setIfInBounds_toArray, List.set_cons_zero, List.set_cons_succ]
    refine wpAnyZ_ready (rs := [6]) (by kernel_rfl) (by simp) ?_
    refine AllReadyZ.cons (o := { dst := some 26, op := Op.index 77 (Operand.tmp 21) (Operand.tmp 25), type := 76, pos := "token.go:97", after := #[{ on := 1, ground := Ground.data }, { on := 5, ground := Ground.data }], guard := none }) rfl (fun K hK => ?_) AllReadyZ.nil
    go_simp
    refine hK.out _ _ (fun h => absurd h (by decide)) ?_
    clear hK K
    try simp only [Act.put, List.setIfInBounds_toArray, List.set_cons_zero, List.set_cons_succ]
    refine wpAnyZ_ready (rs := [9]) (by kernel_rfl) (by simp) ?_
    refine AllReadyZ.cons (o := { dst := some 29, op := Op.call { callee := Callee.value (Operand.tmp 26), args := #[Operand.tmp 27, Operand.tmp 28], argTypes := #[33, 2] }, type := 48, pos := "token.go:97", after := #[{ on := 6, ground := Ground.data }, { on := 7, ground := Ground.data }, { on := 8, ground := Ground.data }, { on := 1, ground := Ground.chain }], guard := none }) rfl (fun K hK => ?_) AllReadyZ.nil
    clear hix
    go_simp
    refine (hfin.out W1 hHe).mono ?_
    rintro e w2 ⟨rfl, hq⟩
    refine hK.out _ _ (fun h => absurd h (by decide)) ?_
    clear hK K
    try simp only [Act.put, List.setIfInBounds_toArray, List.set_cons_zero, List.set_cons_succ]
    refine wpAnyZ_take (i := 10) (oi := { dst := some 19, op := Op.move (Operand.tmp 29), type := 48, pos := "token.go:97", after := #[{ on := 9, ground := Ground.data }], guard := none }) (v := ?zv10_29) rfl (by kernel_rfl) (by kernel_rfl) (by kernel_rfl) (fun _ _ _ h => h) (by decide) (Or.inl ⟨by rfl, ?zy10_29⟩) (fun h => absurd h (by decide)) ?zrest10_29
    case zy10_29 =>
      intro w _
      go_simp
      try with_reducible rfl
    try simp only [Act.put, List.setIfInBounds_toArray, List.set_cons_zero, List.set_cons_succ]
    refine wpAnyZ_take (i := 11) (oi := { dst := some 30, op := Op.extract (Operand.tmp 19) 0, type := 2, pos := "token.go:97", after := #[{ on := 10, ground := Ground.data }], guard := none }) (v := ?zv11_30) rfl (by kernel_rfl) (by kernel_rfl) (by kernel_rfl) (fun _ _ _ h => h) (by decide) (Or.inl ⟨by rfl, ?zy11_30⟩) (fun h => absurd h (by decide)) ?zrest11_30
    case zy11_30 =>
      intro w _
      go_simp
      try with_reducible rfl
    try simp only [Act.put, List.setIfInBounds_toArray, List.set_cons_zero, List.set_cons_succ]
    refine wpAnyZ_take (i := 12) (oi := { dst := some 31, op := Op.extract (Operand.tmp 19) 1, type := 4, pos := "token.go:97", after := #[{ on := 10, ground := Ground.data }, { on := 13, ground := Ground.gcOnly Departure.lateStores }], guard := none }) (v := ?zv12_31) rfl (by kernel_rfl) (by kernel_rfl) (by kernel_rfl) (fun _ _ _ h => h) (by decide) (Or.inl ⟨by rfl, ?zy12_31⟩) (fun h => absurd h (by decide)) ?zrest12_31
    case zy12_31 =>
      intro w _
      go_simp
      try with_reducible rfl
    try simp only [Act.put, List.setIfInBounds_toArray, List.set_cons_zero, List.set_cons_succ]
    refine wpAnyZ_take (i := 13) (oi := { dst := some 9, op := Op.assign (Operand.tmp 30), type := 2, pos := "token.go:97", after := #[{ on := 11, ground := Ground.data }, { on := 9, ground := Ground.chain }, { on := 0, ground := Ground.phase }, { on := 1, ground := Ground.phase }, { on := 2, ground := Ground.phase }, { on := 3, ground := Ground.phase }, { on := 4, ground := Ground.phase }, { on := 5, ground := Ground.phase }, { on := 6, ground := Ground.phase }, { on := 7, ground := Ground.phase }, { on := 8, ground := Ground.phase }, { on := 9, ground := Ground.phase }, { on := 10, ground := Ground.phase }, { on := 11, ground := Ground.phase }, { on := 12, ground := Ground.textOnly Departure.lateStores }], guard := none }) (v := ?zv13_32) rfl (by kernel_rfl) (by kernel_rfl) (by kernel_rfl) (fun _ _ _ h => h) (by decide) (Or.inl ⟨by rfl, ?zy13_32⟩) (fun h => absurd h (by decide)) ?zrest13_32
    case zy13_32 =>
      intro w _
      go_simp
      try with_reducible rfl
    try simp only [Act.put, List.setIfInBounds_toArray, List.set_cons_zero, List.set_cons_succ]
    refine wpAnyZ_take (i := 14) (oi := { dst := some 10, op := Op.assign (Operand.tmp 31), type := 4, pos := "token.go:97", after := #[{ on := 12, ground := Ground.data }, { on := 13, ground := Ground.chain }, { on := 0, ground := Ground.phase }, { on := 1, ground := Ground.phase }, { on := 2, ground := Ground.phase }, { on := 3, ground := Ground.phase }, { on := 4, ground := Ground.phase }, { on := 5, ground := Ground.phase }, { on := 6, ground := Ground.phase }, { on := 7, ground := Ground.phase }, { on := 8, ground := Ground.phase }, { on := 9, ground := Ground.phase }, { on := 10, ground := Ground.phase }, { on := 11, ground := Ground.phase }, { on := 12, ground := Ground.phase }, { on := 13, ground := Ground.phase }], guard := none }) (v := ?zv14_33) rfl (by kernel_rfl) (by kernel_rfl) (by kernel_rfl) (fun _ _ _ h => h) (by decide) (Or.inl ⟨by rfl, ?zy14_33⟩) (fun h => absurd h (by decide)) ?zrest14_33
    case zy14_33 =>
      intro w _
      go_simp
      try with_reducible rfl
    try simp only [Act.put, List.setIfInBounds_toArray, List.set_cons_zero, List.set_cons_succ]
    refine wpAnyZ_done (by kernel_rfl) ?_ _
    clear hHd hHe hvs c2 hmk hmt hfin hb1
    go_wp2
    go_ret3
    exact ⟨rfl, hq⟩
end
end Go.Proofs.Ytobfjfmaicmkdaa
