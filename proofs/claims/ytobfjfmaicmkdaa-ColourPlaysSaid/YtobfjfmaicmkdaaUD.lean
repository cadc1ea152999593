
/-
  Tallies and tokens of the program in memory, and its calls on them.
-/
import Derived.Test.YtobfjfmaicmkdaaUC
import Derived.Test.YtobfjfmaicmkdaaYA
import Derived.Deep.RegionLaw
import Derived.Deep.RegionHeld3
import Derived.Shelf.RegionOpen
import Derived.LoopTactic
import Derived.BigRegion
import Derived.Deep.DeepCutAuto
import Derived.Outline
import Derived.Deep.RegionWith
import Derived.Lib.MinMax
namespace Go.Proofs.Ytobfjfmaicmkdaa
open Go.ChangeShapes Go.WideShapes Go.ChangeAt Go.Shelf Go.RowKit Go.Lib Go.Sort Go.Deep Col
set_option linter.unusedVariables false
set_option linter.unusedSimpArgs false
set_option maxRecDepth 4000

theorem cell_of_block {w : World} {b o : Nat} {cs : Array Value} {t : TypeId} {u : Value} (h : w.heap[b]? = some (.cells cs t (0, 0))) (hu : cs[o]? = some u) : w.cell? ⟨b, o, none⟩ = some u := by
  simp [World.cell?, h, hu]
theorem frozen_of_cells {w : World} {b o : Nat} {cs : Array Value} {t : TypeId} (h : w.heap[b]? = some (.cells cs t (0, 0))) : w.frozen? ⟨b, o, none⟩ = false := by simp [World.frozen?, h]
/-- What a step turns. -/
def CStep (w w' : World) (S S' : Nat → Prop) : Prop := KeptOff S w w' ∧ ∀ k, S' k → S k ∨ w.heap.size ≤ k
theorem CStep.of_below {w w' : World} {S : Nat → Prop} (h : Below w.heap.size w w') : CStep w w' S S := ⟨.of_below h, fun _ h => .inl h⟩
/-- A colour as a number. -/
def colI (c : Bool) : Int := if c then 1 else 0
/-- A tally's numbers are not too large. -/
def Ta.ok (t : Ta) : Prop := (-4611686018427387904 < t.n0 ∧ t.n0 < 4611686018427387904) ∧ -4611686018427387904 < t.n1 ∧ t.n1 < 4611686018427387904
def TaAt (w : World) (b : Nat) (S : Nat → Prop) (t : Ta) : Prop := (w.heap[b]? = some (.cells #[.bool true, .int .i64 (colI t.c), .int .i64 t.n0, .int .i64 t.n1, .int .i64 t.red] 72 (0, 0)) ∧ t.red ≤ 4611686018427387904) ∧ S b ∧ ∀ k, S k → k < w.heap.size
section
variable {w w' : World} {b : Nat} {S X : Nat → Prop} {t : Ta}
theorem TaAt.kept (h : TaAt w b S t) (hk : KeptOff X w w') (hn : ∀ k, S k → ¬ X k) : TaAt w' b S t :=
  ⟨⟨(hk.block b (h.2.2 b h.2.1) (hn b h.2.1)).trans h.1.1, h.1.2⟩, h.2.1, fun k e => Nat.lt_of_lt_of_le (h.2.2 k e) hk.size⟩
theorem TaAt.below (h : TaAt w b S t) (hb : Below w.heap.size w w') : TaAt w' b S t := h.kept (X := fun _ => False) (.of_below hb) (fun _ _ e => e)
theorem TaAt.lt (h : TaAt w b S t) {k : Nat} (hk : S k) : k < w.heap.size := h.2.2 k hk
theorem TaAt.own (h : TaAt w b S t) : S b := h.2.1
theorem coOk_any (h : TaAt w b S t) : Calls Try.prog 28 #[.pointer (some ⟨b, 0, none⟩)] w fun e w' => e = .returned (.bool true) ∧ w = w' := by
  have c0 := cell_of_block (o := 0) h.1.1 rfl
  clear h
  go_enter Try.func28, Try.ntmps28
  go_wp2
  go_ret
  exact ⟨rfl, rfl⟩
theorem coNew_any (w : World) : Calls Try.prog 10 #[] w fun e w' => ∃ b S, e = .returned (.pointer (some ⟨b, 0, none⟩)) ∧ Hid (TaAt w' b S Ta.new ∧ (∀ k, S k → w.heap.size ≤ k) ∧ Below w.heap.size w w') := by
  go_enter Try.func10, Try.ntmps10
  go_wp2
  go_ret
  exact ⟨_, fun k => k = w.heap.size, rfl, ⟨⟨heap_alloc_new w _, by decide⟩, rfl, fun k e => by subst e; simp⟩, fun k e => by omega, (Below.refl _ w).alloc (Nat.le_refl _) _⟩
theorem coColour_any (h : TaAt w b S t) : Calls Try.prog 21 #[.pointer (some ⟨b, 0, none⟩)] w fun e w' => e = .returned (.int .i64 (colI t.c)) ∧ Below w.heap.size w w' := by
  have hm := coOk_any h
  have c1 := cell_of_block (o := 1) h.1.1 rfl
  clear h
  go_enter Try.func21, Try.ntmps21
  go_wp2_with (go_at_call 28; refine hm.mono ?_; rintro e w' ⟨rfl, rfl⟩)
  go_ret
  exact ⟨rfl, Below.refl _ _⟩
theorem coRed_any (h : TaAt w b S t) : Calls Try.prog 23 #[.pointer (some ⟨b, 0, none⟩)] w fun e w' => e = .returned (.int .i64 t.red) ∧ Below w.heap.size w w' := by
  have hm := coOk_any h
  have c1 := cell_of_block (o := 4) h.1.1 rfl
  clear h
  go_enter Try.func23, Try.ntmps23
  go_wp2_with (go_at_call 28; refine hm.mono ?_; rintro e w' ⟨rfl, rfl⟩)
  go_ret
  exact ⟨rfl, Below.refl _ _⟩
end
theorem coIsColour_any (w : World) (q : Int) : Calls Try.prog 30 #[.int .i64 q] w fun e w' => e = .returned (.bool (decide (q = 0 ∨ q = 1))) ∧ w = w' := by
  by_cases h0 : 0 ≤ q
  · by_cases h1 : q ≤ 1
    · rw [decide_eq_true (show q = 0 ∨ q = 1 by omega)]
      go_enter Try.func30, Try.ntmps30
      go_wp2
      go_ret
      exact ⟨rfl, rfl⟩
    · rw [decide_eq_false (show ¬ (q = 0 ∨ q = 1) by omega)]
      go_enter Try.func30, Try.ntmps30
      go_wp2
      go_ret
      exact ⟨rfl, rfl⟩
  · rw [decide_eq_false (show ¬ (q = 0 ∨ q = 1) by omega)]
    go_enter Try.func30, Try.ntmps30
    go_wp2
    go_ret
    exact ⟨rfl, rfl⟩
theorem coOther_any (w : World) (c : Bool) : Calls Try.prog 31 #[.int .i64 (colI c)] w fun e w' => e = .returned (.int .i64 (colI (!c))) ∧ w = w' := by
  cases c with
  | true =>
    show Calls _ _ #[.int .i64 1] _ fun e w' => e = .returned (.int .i64 0) ∧ w = w'
    go_enter Try.func31, Try.ntmps31
    go_wp2
    go_ret
    exact ⟨rfl, rfl⟩
  | false =>
    show Calls _ _ #[.int .i64 0] _ fun e w' => e = .returned (.int .i64 1) ∧ w = w'
    go_enter Try.func31, Try.ntmps31
    go_wp2
    go_ret
    exact ⟨rfl, rfl⟩
/-- The least of two times, of three, that lie in a slice. -/
theorem vLeast_two {w : World} {b : Nat} {x y : Int} (c0 : w.cell? ⟨b, 0, none⟩ = some (.int .i64 x)) (c1 : w.cell? ⟨b, 1, none⟩ = some (.int .i64 y)) (hx : x ≤ 4611686018427387904) :
    Calls Try.prog 29 #[.slice (some ⟨b, 0, none⟩) 2 2] w fun e w' => e = .returned (.int .i64 (min x y)) ∧ w = w' := by
  have hm : min (4611686018427387904 : Int) x = x := Int.min_eq_right hx
  go_enter Try.func29, Try.ntmps29
  go_wp2
  go_loopw [8, 3] (fun s8 s3 wr => (s8 = .int .i64 0 ∧ s3 = .int .i64 4611686018427387904 ∨ s8 = .int .i64 1 ∧ s3 = .int .i64 x ∨ s8 = .int .i64 2 ∧ s3 = .int .i64 (min x y)) ∧ w = wr) (fun s8 _ _ => 2 - (intOf s8).toNat)
  case atStart => exact ⟨.inl ⟨rfl, rfl⟩, rfl⟩
  case round =>
    obtain ⟨hh, rfl⟩ := hrel
    rcases hh with ⟨rfl, rfl⟩ | ⟨rfl, rfl⟩ | ⟨rfl, rfl⟩
    · go_wp2
      go_roundw
      case rel => exact ⟨.inr (.inl ⟨rfl, rfl⟩), trivial⟩
      case measure => simp [intOf]
    · go_wp2
      go_roundw
      case rel => exact ⟨.inr (.inr ⟨rfl, rfl⟩), trivial⟩
      case measure => simp [intOf]
    · go_wp2
      go_ret
      exact ⟨rfl, rfl⟩
theorem vLeast_three {w : World} {b : Nat} {x y z : Int} (c0 : w.cell? ⟨b, 0, none⟩ = some (.int .i64 x)) (c1 : w.cell? ⟨b, 1, none⟩ = some (.int .i64 y)) (c2 : w.cell? ⟨b, 2, none⟩ = some (.int .i64 z)) (hz : z ≤ 4611686018427387904) :
    Calls Try.prog 29 #[.slice (some ⟨b, 0, none⟩) 3 3] w fun e w' => e = .returned (.int .i64 (min (min x y) z)) ∧ w = w' := by
  have hm : min (min (min (4611686018427387904 : Int) x) y) z = min (min x y) z := by omega
  rw [← hm]
  clear hm hz
  generalize hm1 : min (4611686018427387904 : Int) x = m1
  generalize hm2 : min m1 y = m2
  generalize hm3 : min m2 z = m3
  go_enter Try.func29, Try.ntmps29
  go_wp2
  go_loopw [8, 3] (fun s8 s3 wr => (s8 = .int .i64 0 ∧ s3 = .int .i64 4611686018427387904 ∨ s8 = .int .i64 1 ∧ s3 = .int .i64 m1 ∨ s8 = .int .i64 2 ∧ s3 = .int .i64 m2 ∨ s8 = .int .i64 3 ∧ s3 = .int .i64 m3) ∧ w = wr) (fun s8 _ _ => 3 - (intOf s8).toNat)
  case atStart => exact ⟨.inl ⟨rfl, rfl⟩, rfl⟩
  case round =>
    obtain ⟨hh, rfl⟩ := hrel
    rcases hh with ⟨rfl, rfl⟩ | ⟨rfl, rfl⟩ | ⟨rfl, rfl⟩ | ⟨rfl, rfl⟩
    · go_wp2
      go_roundw
      case rel => exact ⟨.inr (.inl ⟨rfl, by rw [← hm1]⟩), trivial⟩
      case measure => simp [intOf]
    · go_wp2
      go_roundw
      case rel => exact ⟨.inr (.inr (.inl ⟨rfl, by rw [← hm2]⟩)), trivial⟩
      case measure => simp [intOf]
    · go_wp2
      go_roundw
      case rel => exact ⟨.inr (.inr (.inr ⟨rfl, by rw [← hm3]⟩)), trivial⟩
      case measure => simp [intOf]
    · go_wp2
      go_ret
      exact ⟨rfl, rfl⟩
/-- The count of a colour that a number names. -/
def netI (t : Ta) (q : Int) : Int := if q = 0 then t.n0 else if q = 1 then t.n1 else 0
/-! What the laws want of the program's calls. -/
section
variable {w : World} {b : Nat} {S : Nat → Prop} {t : Ta}
theorem TaAt.set (h : TaAt w b S t) (o : Nat) (v : Value) {t' : Ta} (hr : t'.red ≤ 4611686018427387904) (e : (#[.bool true, .int .i64 (colI t.c), .int .i64 t.n0, .int .i64 t.n1, .int .i64 t.red] : Array Value).setIfInBounds o v = #[.bool true, .int .i64 (colI t'.c), .int .i64 t'.n0, .int .i64 t'.n1, .int .i64 t'.red]) : TaAt (w.setCell ⟨b, o, none⟩ v) b S t' ∧ KeptOff S w (w.setCell ⟨b, o, none⟩ v) := by
  have hk := KeptOff.set w ⟨b, o, none⟩ v
  refine ⟨⟨⟨?_, hr⟩, h.2.1, fun k e => Nat.lt_of_lt_of_le (h.2.2 k e) hk.size⟩, hk.mono (fun k _ e => by rw [e]; exact h.2.1)⟩
  have := Go.heap_setCell_same w b o _ _ v h.1.1
  rw [e] at this
  exact this
theorem coNet_any (h : TaAt w b S t) (q : Int) : Calls Try.prog 22 #[.pointer (some ⟨b, 0, none⟩), .int .i64 q] w fun e w' => e = .returned (.int .i64 (netI t q)) ∧ Below w.heap.size w w' := by
  have hm := coOk_any h
  have hi := coIsColour_any w q
  have c2 := cell_of_block (o := 2) h.1.1 rfl
  have c3 := cell_of_block (o := 3) h.1.1 rfl
  clear h
  unfold netI
  by_cases h0 : q = 0
  · subst h0
    rw [if_pos rfl]
    rw [decide_eq_true (Or.inl rfl)] at hi
    go_enter Try.func22, Try.ntmps22
    go_wp2_with first | (go_at_call 28; refine hm.mono ?_; rintro e w' ⟨rfl, rfl⟩) | (go_at_call 30; refine hi.mono ?_; rintro e w' ⟨rfl, rfl⟩)
    go_ret
    exact ⟨rfl, Below.refl _ _⟩
  · by_cases h1 : q = 1
    · subst h1
      rw [if_neg h0, if_pos rfl]
      rw [decide_eq_true (Or.inr rfl)] at hi
      go_enter Try.func22, Try.ntmps22
      go_wp2_with first | (go_at_call 28; refine hm.mono ?_; rintro e w' ⟨rfl, rfl⟩) | (go_at_call 30; refine hi.mono ?_; rintro e w' ⟨rfl, rfl⟩)
      go_ret
      exact ⟨rfl, Below.refl _ _⟩
    · rw [if_neg h0, if_neg h1]
      rw [decide_eq_false (show ¬ (q = 0 ∨ q = 1) by omega)] at hi
      clear h0 h1
      go_enter Try.func22, Try.ntmps22
      go_wp2_with first | (go_at_call 28; refine hm.mono ?_; rintro e w' ⟨rfl, rfl⟩) | (go_at_call 30; refine hi.mono ?_; rintro e w' ⟨rfl, rfl⟩)
      go_ret
      exact ⟨rfl, Below.refl _ _⟩
theorem coFlip_any (h : TaAt w b S t) : Calls Try.prog 17 #[.pointer (some ⟨b, 0, none⟩)] w fun e w' => e = .returned (.int .i64 0) ∧ Hid (∃ S', TaAt w' b S' t.flip ∧ CStep w w' S S') := by
  have hm := coOk_any h
  have ho := coOther_any w t.c
  have c1 := cell_of_block (o := 1) h.1.1 rfl
  have f1 := frozen_of_cells (o := 1) h.1.1
  have c4 := cell_of_block (o := 4) h.1.1 rfl
  have f4 := frozen_of_cells (o := 4) h.1.1
  have hs1 := h.set 1 (.int .i64 (colI (!t.c))) (t' := ⟨!t.c, t.n0, t.n1, t.red⟩) h.1.2 rfl
  have hs2 := hs1.1.set 4 (.int .i64 4611686018427387904) (t' := t.flip) (by simp [Ta.flip, never]) rfl
  have hf : Hid (∃ S', TaAt ((w.setCell ⟨b, 1, none⟩ (.int .i64 (colI (!t.c)))).setCell ⟨b, 4, none⟩ (.int .i64 4611686018427387904)) b S' t.flip ∧ CStep w ((w.setCell ⟨b, 1, none⟩ (.int .i64 (colI (!t.c)))).setCell ⟨b, 4, none⟩ (.int .i64 4611686018427387904)) S S') := ⟨S, hs2.1, hs1.2.trans hs2.2, fun k e => .inl e⟩
  clear h hs1 hs2
  go_enter Try.func17, Try.ntmps17
  go_wp2_with first | (go_at_call 28; refine hm.mono ?_; rintro e w' ⟨rfl, rfl⟩) | (go_at_call 31; refine ho.mono ?_; rintro e w' ⟨rfl, rfl⟩)
  go_ret
  exact ⟨rfl, hf⟩
/-- What Got answers. -/
def gotC (q : Int) : Int := if q = 0 ∨ q = 1 then 0 else 1
def gotT (t : Ta) (q : Int) : Ta := if q = 0 then t.got false else if q = 1 then t.got true else t
theorem coSent_any (h : TaAt w b S t) (ho : Ta.ok t) (a : Int) : Calls Try.prog 12 #[.pointer (some ⟨b, 0, none⟩), .int .i64 a] w fun e w' => e = .returned (.int .i64 (colI t.c)) ∧ Hid (∃ S', TaAt w' b S' (t.sent a) ∧ CStep w w' S S') := by
  have hm := coOk_any h
  obtain ⟨⟨o1, o2⟩, o3, o4⟩ := ho
  have c1 := cell_of_block (o := 1) h.1.1 rfl
  have c2 := cell_of_block (o := 2) h.1.1 rfl
  have c3 := cell_of_block (o := 3) h.1.1 rfl
  have c4 := cell_of_block (o := 4) h.1.1 rfl
  have f2 := frozen_of_cells (o := 2) h.1.1
  have f3 := frozen_of_cells (o := 3) h.1.1
  have f4 := frozen_of_cells (o := 4) h.1.1
  cases hc : t.c with
  | true =>
    rw [hc] at c1
    simp only [colI, Bool.false_eq_true, if_false, if_true] at c1
    have hw : IntKind.i64.wrap (t.n1 + 1) = t.n1 + 1 := IntWalk.i64_in _ (by omega)
    have hs1 := h.set 3 (.int .i64 (t.n1 + 1)) (t' := ⟨true, t.n0, t.n1 + 1, t.red⟩) h.1.2 (by rw [hc]; rfl)
    have hbd : Below (w.setCell ⟨b, 3, none⟩ (.int .i64 (t.n1 + 1))).heap.size (w.setCell ⟨b, 3, none⟩ (.int .i64 (t.n1 + 1))) (w.setCell ⟨b, 3, none⟩ (.int .i64 (t.n1 + 1))).drew := (Below.refl _ _).drew
    have hA : Hid (TaAt (w.setCell ⟨b, 3, none⟩ (.int .i64 (t.n1 + 1))).drew b S ⟨true, t.n0, t.n1 + 1, t.red⟩ ∧ KeptOff S w (w.setCell ⟨b, 3, none⟩ (.int .i64 (t.n1 + 1))).drew) := Lib.hid ⟨hs1.1.below hbd, hs1.2.trans ((KeptOff.of_below hbd : KeptOff (fun _ => False) _ _).mono (fun _ _ e => e.elim))⟩
    have hx := Lib.hid h.1.2
    clear h hs1 hbd
    go_enter Try.func12, Try.ntmps12
    go_upto_region 3 with (go_at_call 28; refine hm.mono ?_; rintro e w' ⟨rfl, rfl⟩)
    go_region
    clear c1 c2 c3 c4 f2 f3 f4 hm
    generalize (w.setCell ⟨b, 3, none⟩ (.int .i64 (t.n1 + 1))).drew = W1 at *
    have hba := (Below.refl _ (W1.setCell ⟨b, 4, none⟩ (.int .i64 (min t.red a)))).alloc (Nat.le_refl _) (.cells #[.int .i64 t.red, .int .i64 a] 2)
    have hs2 := hA.out.1.set 4 (.int .i64 (min t.red a)) (t' := t.sent a) (by have := hx.out; unfold Ta.sent; simp only; omega) (by unfold Ta.sent; rw [hc]; rfl)
    have hf : Hid (∃ S', TaAt ((W1.setCell ⟨b, 4, none⟩ (.int .i64 (min t.red a))).alloc (.cells #[.int .i64 t.red, .int .i64 a] 2)) b S' (t.sent a) ∧ CStep w ((W1.setCell ⟨b, 4, none⟩ (.int .i64 (min t.red a))).alloc (.cells #[.int .i64 t.red, .int .i64 a] 2)) S S') := ⟨S, hs2.1.below hba, (hA.out.2.trans hs2.2).trans ((KeptOff.of_below hba : KeptOff (fun _ => False) _ _).mono (fun _ _ e => e.elim)), fun k e => .inl e⟩
    have hvl : Hid (Calls Try.prog 29 #[.slice (some ⟨W1.heap.size, 0, none⟩) 2 2] (W1.alloc (.cells #[.int .i64 t.red, .int .i64 a] 2)) fun e w' => e = .returned (.int .i64 (min t.red a)) ∧ W1.alloc (.cells #[.int .i64 t.red, .int .i64 a] 2) = w') := Lib.hid (vLeast_two (by simp) (by simp) hx.out)
    have c1 := cell_of_block (o := 1) hA.out.1.1.1 rfl
    have c4 := cell_of_block (o := 4) hA.out.1.1.1 rfl
    have f4 := frozen_of_cells (o := 4) hA.out.1.1.1
    have hlt : b < W1.heap.size := hA.out.1.lt hA.out.1.own
    simp only [colI, Bool.false_eq_true, if_false, if_true] at c1
    clear hs2 hba
    go_wp2_with (go_at_call 29; refine hvl.out.mono ?_; rintro e w2 ⟨rfl, rfl⟩)
    go_ret
    exact ⟨rfl, hf⟩
  | false =>
    rw [hc] at c1
    simp only [colI, Bool.false_eq_true, if_false, if_true] at c1
    have hw : IntKind.i64.wrap (t.n0 + 1) = t.n0 + 1 := IntWalk.i64_in _ (by omega)
    have hs1 := h.set 2 (.int .i64 (t.n0 + 1)) (t' := ⟨false, t.n0 + 1, t.n1, t.red⟩) h.1.2 (by rw [hc]; rfl)
    have hbd : Below (w.setCell ⟨b, 2, none⟩ (.int .i64 (t.n0 + 1))).heap.size (w.setCell ⟨b, 2, none⟩ (.int .i64 (t.n0 + 1))) (w.setCell ⟨b, 2, none⟩ (.int .i64 (t.n0 + 1))).drew := (Below.refl _ _).drew
    have hA : Hid (TaAt (w.setCell ⟨b, 2, none⟩ (.int .i64 (t.n0 + 1))).drew b S ⟨false, t.n0 + 1, t.n1, t.red⟩ ∧ KeptOff S w (w.setCell ⟨b, 2, none⟩ (.int .i64 (t.n0 + 1))).drew) := Lib.hid ⟨hs1.1.below hbd, hs1.2.trans ((KeptOff.of_below hbd : KeptOff (fun _ => False) _ _).mono (fun _ _ e => e.elim))⟩
    have hx := Lib.hid h.1.2
    clear h hs1 hbd
    go_enter Try.func12, Try.ntmps12
    go_upto_region 3 with (go_at_call 28; refine hm.mono ?_; rintro e w' ⟨rfl, rfl⟩)
    go_region
    clear c1 c2 c3 c4 f2 f3 f4 hm
    generalize (w.setCell ⟨b, 2, none⟩ (.int .i64 (t.n0 + 1))).drew = W1 at *
    have hba := (Below.refl _ (W1.setCell ⟨b, 4, none⟩ (.int .i64 (min t.red a)))).alloc (Nat.le_refl _) (.cells #[.int .i64 t.red, .int .i64 a] 2)
    have hs2 := hA.out.1.set 4 (.int .i64 (min t.red a)) (t' := t.sent a) (by have := hx.out; unfold Ta.sent; simp only; omega) (by unfold Ta.sent; rw [hc]; rfl)
    have hf : Hid (∃ S', TaAt ((W1.setCell ⟨b, 4, none⟩ (.int .i64 (min t.red a))).alloc (.cells #[.int .i64 t.red, .int .i64 a] 2)) b S' (t.sent a) ∧ CStep w ((W1.setCell ⟨b, 4, none⟩ (.int .i64 (min t.red a))).alloc (.cells #[.int .i64 t.red, .int .i64 a] 2)) S S') := ⟨S, hs2.1.below hba, (hA.out.2.trans hs2.2).trans ((KeptOff.of_below hba : KeptOff (fun _ => False) _ _).mono (fun _ _ e => e.elim)), fun k e => .inl e⟩
    have hvl : Hid (Calls Try.prog 29 #[.slice (some ⟨W1.heap.size, 0, none⟩) 2 2] (W1.alloc (.cells #[.int .i64 t.red, .int .i64 a] 2)) fun e w' => e = .returned (.int .i64 (min t.red a)) ∧ W1.alloc (.cells #[.int .i64 t.red, .int .i64 a] 2) = w') := Lib.hid (vLeast_two (by simp) (by simp) hx.out)
    have c1 := cell_of_block (o := 1) hA.out.1.1.1 rfl
    have c4 := cell_of_block (o := 4) hA.out.1.1.1 rfl
    have f4 := frozen_of_cells (o := 4) hA.out.1.1.1
    have hlt : b < W1.heap.size := hA.out.1.lt hA.out.1.own
    simp only [colI, Bool.false_eq_true, if_false, if_true] at c1
    clear hs2 hba
    go_wp2_with (go_at_call 29; refine hvl.out.mono ?_; rintro e w2 ⟨rfl, rfl⟩)
    go_ret
    exact ⟨rfl, hf⟩
theorem coGot_any (h : TaAt w b S t) (ho : Ta.ok t) (q : Int) : Calls Try.prog 14 #[.pointer (some ⟨b, 0, none⟩), .int .i64 q] w fun e w' => e = .returned (.int .i64 (gotC q)) ∧ Hid (∃ S', TaAt w' b S' (gotT t q) ∧ CStep w w' S S') := by
  have hm := coOk_any h
  have hi := coIsColour_any w q
  obtain ⟨⟨o1, o2⟩, o3, o4⟩ := ho
  have c2 := cell_of_block (o := 2) h.1.1 rfl
  have c3 := cell_of_block (o := 3) h.1.1 rfl
  have f2 := frozen_of_cells (o := 2) h.1.1
  have f3 := frozen_of_cells (o := 3) h.1.1
  unfold gotC gotT
  by_cases h0 : q = 0
  · subst h0
    rw [if_pos (.inl rfl), if_pos rfl]
    rw [decide_eq_true (Or.inl rfl)] at hi
    have hw : IntKind.i64.wrap (t.n0 - 1) = t.n0 - 1 := IntWalk.i64_in _ (by omega)
    have hs1 := h.set 2 (.int .i64 (t.n0 - 1)) (t' := t.got false) h.1.2 rfl
    have hbd : Below (w.setCell ⟨b, 2, none⟩ (.int .i64 (t.n0 - 1))).heap.size (w.setCell ⟨b, 2, none⟩ (.int .i64 (t.n0 - 1))) (w.setCell ⟨b, 2, none⟩ (.int .i64 (t.n0 - 1))).drew := (Below.refl _ _).drew
    have hf : Hid (∃ S', TaAt (w.setCell ⟨b, 2, none⟩ (.int .i64 (t.n0 - 1))).drew b S' (t.got false) ∧ CStep w (w.setCell ⟨b, 2, none⟩ (.int .i64 (t.n0 - 1))).drew S S') := ⟨S, hs1.1.below hbd, hs1.2.trans ((KeptOff.of_below hbd : KeptOff (fun _ => False) _ _).mono (fun _ _ e => e.elim)), fun k e => .inl e⟩
    clear h hs1 hbd
    go_enter Try.func14, Try.ntmps14
    go_upto_region 5 with first | (go_at_call 28; refine hm.mono ?_; rintro e w' ⟨rfl, rfl⟩) | (go_at_call 30; refine hi.mono ?_; rintro e w' ⟨rfl, rfl⟩)
    go_region
    go_wp2_with first | (go_at_call 28; refine hm.mono ?_; rintro e w' ⟨rfl, rfl⟩) | (go_at_call 30; refine hi.mono ?_; rintro e w' ⟨rfl, rfl⟩)
    go_ret
    exact ⟨rfl, hf⟩
  · by_cases h1 : q = 1
    · subst h1
      rw [if_pos (.inr rfl), if_neg h0, if_pos rfl]
      rw [decide_eq_true (Or.inr rfl)] at hi
      have hw : IntKind.i64.wrap (t.n1 - 1) = t.n1 - 1 := IntWalk.i64_in _ (by omega)
      have hs1 := h.set 3 (.int .i64 (t.n1 - 1)) (t' := t.got true) h.1.2 rfl
      have hbd : Below (w.setCell ⟨b, 3, none⟩ (.int .i64 (t.n1 - 1))).heap.size (w.setCell ⟨b, 3, none⟩ (.int .i64 (t.n1 - 1))) (w.setCell ⟨b, 3, none⟩ (.int .i64 (t.n1 - 1))).drew := (Below.refl _ _).drew
      have hf : Hid (∃ S', TaAt (w.setCell ⟨b, 3, none⟩ (.int .i64 (t.n1 - 1))).drew b S' (t.got true) ∧ CStep w (w.setCell ⟨b, 3, none⟩ (.int .i64 (t.n1 - 1))).drew S S') := ⟨S, hs1.1.below hbd, hs1.2.trans ((KeptOff.of_below hbd : KeptOff (fun _ => False) _ _).mono (fun _ _ e => e.elim)), fun k e => .inl e⟩
      clear h hs1 hbd
      go_enter Try.func14, Try.ntmps14
      go_upto_region 5 with first | (go_at_call 28; refine hm.mono ?_; rintro e w' ⟨rfl, rfl⟩) | (go_at_call 30; refine hi.mono ?_; rintro e w' ⟨rfl, rfl⟩)
      go_region
      go_wp2_with first | (go_at_call 28; refine hm.mono ?_; rintro e w' ⟨rfl, rfl⟩) | (go_at_call 30; refine hi.mono ?_; rintro e w' ⟨rfl, rfl⟩)
      go_ret
      exact ⟨rfl, hf⟩
    · rw [if_neg (by omega), if_neg h0, if_neg h1]
      rw [decide_eq_false (show ¬ (q = 0 ∨ q = 1) by omega)] at hi
      clear h0 h1
      have hf : Hid (∃ S', TaAt w b S' t ∧ CStep w w S S') := ⟨S, h, CStep.of_below (Below.refl _ _)⟩
      clear h
      go_enter Try.func14, Try.ntmps14
      go_wp2_with first | (go_at_call 28; refine hm.mono ?_; rintro e w' ⟨rfl, rfl⟩) | (go_at_call 30; refine hi.mono ?_; rintro e w' ⟨rfl, rfl⟩)
      go_ret
      exact ⟨rfl, hf⟩
end
end Go.Proofs.Ytobfjfmaicmkdaa
