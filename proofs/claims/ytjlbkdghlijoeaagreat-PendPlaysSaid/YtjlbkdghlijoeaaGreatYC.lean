/-
  One more in the middle of a slice: the program's with, at messages and at days.
  One out of the middle of a slice: the program's without, at days and at messages.
-/
import Derived.Test.YtjlbkdghlijoeaaGreatYA
import Derived.Deep.RegionLaw
import Derived.Deep.RegionHeld3
import Derived.Shelf.RegionOpen
import Derived.LoopTactic
import Derived.BigRegion
import Derived.Deep.DeepCutAuto
import Derived.Outline
namespace Go.Proofs.YtjlbkdghlijoeaaGreat
open Go.ChangeShapes Go.WideShapes Go.ChangeAt Go.Shelf Go.RowKit Go.Lib Go.Sort Go.Deep
set_option linter.unusedVariables false

/-! Elements as cells. -/
section
variable {α : Type} {enc : α → List Value} {sz : Nat}
theorem fm_length (he : ∀ x, (enc x).length = sz) : ∀ l : List α, (l.flatMap enc).length = l.length * sz
  | [] => by simp
  | x :: l => by rw [List.flatMap_cons, List.length_append, he, fm_length he l, List.length_cons, Nat.add_mul]; omega
theorem fm_take (he : ∀ x, (enc x).length = sz) : ∀ (l : List α) (p : Nat), (l.take p).flatMap enc = (l.flatMap enc).take (p * sz)
  | [], p => by simp
  | x :: l, 0 => by simp
  | x :: l, p + 1 => by
    rw [List.take_succ_cons, List.flatMap_cons, List.flatMap_cons, fm_take he l p, List.take_append, he, Nat.add_mul, Nat.one_mul, Nat.add_sub_cancel, List.take_of_length_le (l := enc x) (by rw [he]; omega)]
theorem fm_drop (he : ∀ x, (enc x).length = sz) : ∀ (l : List α) (p : Nat), (l.drop p).flatMap enc = (l.flatMap enc).drop (p * sz)
  | [], p => by simp
  | x :: l, 0 => by simp
  | x :: l, p + 1 => by
    rw [List.drop_succ_cons, List.flatMap_cons, fm_drop he l p, List.drop_append, he, Nat.add_mul, Nat.one_mul, Nat.add_sub_cancel, List.drop_of_length_le (l := enc x) (by rw [he]; omega), List.nil_append]
theorem fm_splice (he : ∀ x, (enc x).length = sz) (l c : List α) (p : Nat) : splice (l.flatMap enc) (p * sz) (c.flatMap enc) = (splice l p c).flatMap enc := by
  unfold splice
  rw [List.flatMap_append, List.flatMap_append, fm_take he, fm_drop he, fm_length he, Nat.add_mul]
theorem splice_ins (l : List α) (p : Nat) (x : α) (hp : p ≤ l.length) : splice (splice (l ++ [x]) (p + 1) (l.drop p)) p [x] = l.take p ++ x :: l.drop p := by
  apply List.ext_getElem?
  intro j
  have h1 : (p + 1) + (l.drop p).length ≤ (l ++ [x]).length := by simp; omega
  have h2 : p + [x].length ≤ (splice (l ++ [x]) (p + 1) (l.drop p)).length := by rw [length_splice _ _ _ h1]; simp; omega
  rw [splice_get _ _ _ h2, splice_get _ _ _ h1]
  by_cases a : j < p
  · rw [if_pos a, if_pos (by omega), List.getElem?_append_left (by omega), List.getElem?_append_left (by rw [List.length_take]; omega), List.getElem?_take_of_lt a]
  · have eR : (l.take p ++ x :: l.drop p)[j]? = (x :: l.drop p)[j - p]? := by
      rw [List.getElem?_append_right (by rw [List.length_take]; omega), List.length_take, Nat.min_eq_left hp]
    rw [eR, if_neg a]
    by_cases b : j = p
    · subst b
      rw [if_pos (by simp)]
      simp
    · rw [if_neg (by simp; omega), if_neg (by omega)]
      obtain ⟨k, rfl⟩ : ∃ k, j = p + 1 + k := ⟨j - p - 1, by omega⟩
      rw [show p + 1 + k - p = k + 1 by omega, List.getElem?_cons_succ]
      by_cases c : p + 1 + k < p + 1 + (l.drop p).length
      · rw [if_pos c, show p + 1 + k - (p + 1) = k by omega]
      · rw [if_neg c, List.getElem?_eq_none (by simp at c ⊢; omega), List.getElem?_eq_none (by omega)]
end
/-- A day's cell. -/
def encI (d : Int) : List Value := [.int .i64 d]
theorem encI_length (d : Int) : (encI d).length = 1 := rfl
/-- Days as cells. -/
def ints (l : List Int) : List Value := l.flatMap encI
theorem ints_length (l : List Int) : (ints l).length = l.length := by unfold ints; rw [fm_length encI_length, Nat.mul_one]
theorem ints_one (l : List Int) : ∀ u ∈ ints l, u.oneCell' = true := by
  intro u hu
  unfold ints at hu
  obtain ⟨m, _, hm⟩ := List.mem_flatMap.1 hu
  obtain rfl : u = .int .i64 m := by simpa [encI] using hm
  rfl
theorem ints_get : ∀ (l : List Int) (j : Nat), (ints l)[j]? = (l[j]?).map (Value.int .i64)
  | [], j => by simp [ints]
  | d :: l, 0 => by simp [ints, encI]
  | d :: l, j + 1 => by
    have := ints_get l j
    unfold ints at *
    rw [List.flatMap_cons]
    simpa [encI] using this
/-- A row of messages; a row of days. -/
def RowM (w : World) (g off cap : Nat) (l : List M) : Prop := RowIn w 34 7 g off l.length cap (flat l)
def RowI (w : World) (g off cap : Nat) (l : List Int) : Prop := RowIn w 2 1 g off l.length cap (ints l)
def AtM (w : World) (v : Value) (l : List M) : Prop := RowAt w 34 7 v l.length (flat l)
def AtI (w : World) (v : Value) (l : List Int) : Prop := RowAt w 2 1 v l.length (ints l)
theorem infoI64 : (Tryz.prog.info? 2).map (fun i => (i.zero, i.size, i.bytes)) = some (some (.int .i64 0), 1, 8) := by kernel_rfl
theorem infoI1 : (Tryz.prog.info? 2).map (·.size) = some 1 := by kernel_rfl
theorem infoS : (Tryz.prog.info? 34).map (·.size) = some 7 := by kernel_rfl
theorem M.cells_one (m : M) : m.cells.all (·.oneCell') = true := by simp [M.cells, Value.oneCell']
/-- A box that holds a message. -/
def BoxM (w : World) (B : Nat) (m : M) : Prop := w.heap[B]? = some (.cells m.cells 34)
theorem BoxM.kept {S : Nat → Prop} {w w' : World} {B : Nat} {m : M} (h : BoxM w B m) (hk : KeptOff S w w') (hn : ¬ S B) : BoxM w' B m := (hk.block B (Array.getElem?_eq_some_iff.1 h).1 hn).trans h
theorem BoxM.lt {w : World} {B : Nat} {m : M} (h : BoxM w B m) : B < w.heap.size := (Array.getElem?_eq_some_iff.1 h).1
theorem BoxM.at {w : World} {B : Nat} {m : M} (h : BoxM w B m) : MsgAt w B 0 m := by
  refine ⟨h.lt, ?_, ?_, ?_, ?_, ?_, ?_, ?_⟩ <;> (unfold BoxM at h; simp [World.cell?, h, M.cells])
theorem BoxM.fz {w : World} {B : Nat} {m : M} (h : BoxM w B m) (o : Nat) : w.frozen? ⟨B, o, none⟩ = false := by unfold BoxM at h; simp [World.frozen?, h]
theorem BoxM.mk (w : World) (m : M) : BoxM (w.alloc (.cells m.cells 34)) w.heap.size m := heap_alloc_new w _
theorem BoxM.row {w : World} {B : Nat} {m0 : M} (h : BoxM w B m0) (m : M) : BoxM (w.setRow B m.cells) B m := setRow_heap w B _ _ _ _ h
theorem BoxM.below {w w' : World} {B : Nat} {m : M} (h : BoxM w B m) (hb : Below w.heap.size w w') : BoxM w' B m := (hb.block B h.lt).trans h

set_option maxHeartbeats 4000000 in
set_option maxRecDepth 100000 in
theorem withI_any {w : World} {v : Value} {l : List Int} (h : AtI w v l) (p : Nat) (hp : p ≤ l.length) (d : Int) (hl : l.length < 1000000) :
    Calls Tryz.prog 103 #[v, .int .i64 p, .int .i64 d] w fun e w' => ∃ g off cap, e = .returned (.slice (some ⟨g, off, none⟩) (l.length + 1) cap) ∧ RowI w' g off cap (l.take p ++ d :: l.drop p) ∧
      KeptOff (fun k => v.ownBlock = some k) w w' ∧ (v.ownBlock = some g ∨ w.heap.size ≤ g) := by
  have mixed := mixed
  obtain ⟨i0, hi, hz0, hz1, hz2⟩ := info_parts infoI64
  have hl' := Lib.hid hl
  have h1 : Hid (RowAt (w.alloc (.cells #[.int .i64 d] 2)) 2 1 v l.length (ints l)) := RowAt.kept (S := fun _ => False) h (.of_below ((Below.refl _ w).alloc (Nat.le_refl _) _)) (fun _ _ e => e)
  have hvl := Lib.hid (RowAt.lt h)
  clear h
  go_enter Tryz.func103, Tryz.ntmps103
  go_upto_region 2 with (at_builtin; refine wpList_append_row rfl (.tmp 7) (.tmp 9) 99 rfl h1.out i0 _ 8 Tryz.underlying99 hi hz0 hz1 hz2 rfl (by omega) rfl ⟨w.heap.size, 0, none⟩ 1 (ints [d]) rfl rfl (cell_one_new _ _ _) (ints_one _) (by have := hl'.out; unfold maxLen; omega) (by have := hl'.out; omega) ?_; intro g off cap w2 hr hk hg)
  have hw1 : IntKind.i64.wrap ((p : Int) + 1) = (p : Int) + 1 := IntWalk.i64_in _ (by have := hl'.out; omega)
  have hcap := hr.out.bounds
  have hc1 : p + 1 ≤ cap := by omega
  have hc2 : p ≤ cap := by omega
  have hc3 : (p : Int) + 1 ≤ (l.length : Int) + 1 := by omega
  have hc4 : (p : Int) ≤ (l.length : Int) + 1 := by omega
  have hc5 : 0 ≤ (p : Int) + 1 := by omega
  have hc6 : ((p : Int) + 1).toNat = p + 1 := by omega
  have hcs : (ints (l.drop p)).length = (l.length - p) * 1 := by rw [ints_length, List.length_drop, Nat.mul_one]
  have hmn : Nat.min (l.length + 1 - p) (l.length - p) = l.length - p := by show min _ _ = _; omega
  have hne : ¬ cap = p := by omega
  have hfit : p + 1 + (l.length - p) ≤ l.length + 1 := by omega
  have hcell : ∀ j u, (ints (l.drop p))[j]? = some u → (ints l ++ ints [d])[p + j]? = some u := fun j u hj => by
    have hj' : j < l.length - p := by
      have := (List.getElem?_eq_some_iff.1 hj).1
      rw [hcs] at this
      omega
    rw [List.getElem?_append_left (by rw [ints_length]; omega), ints_get]
    rw [ints_get, List.getElem?_drop] at hj
    exact hj
  have hdst : 0 < l.length - p → (if cap = p + 1 then (some ⟨g, off, none⟩ : Option Addr) else some ⟨g, off + (p + 1), none⟩) = some ⟨g, off + (p + 1) * 1, none⟩ := fun h0 => by rw [if_neg (by omega), Nat.mul_one]
  have hR2 : RowIn w2.drew 2 1 g off (l.length + 1) cap (ints l ++ ints [d]) := hr.out.block rfl
  have hsrc : ∀ j u, (ints (l.drop p))[j]? = some u → w2.drew.cell? ((⟨g, off + p, none⟩ : Addr).add j) = some u := fun j u hj => hR2.cellA p (hcell j u hj)
  have hi1 := ints_one (l.drop p)
  clear hcell
  go_region_held3 (fun _ => True) (trivial) (first
    | (refine step_copy_row rfl (.tmp 14) (.tmp 17) 99 99 rfl hR2 2 Tryz.underlying99 infoI1 _ _ _ _ _ _ (p + 1) (l.length - p) (ints (l.drop p)) rfl rfl hcs hmn (fun h0 => ⟨hdst h0, _, rfl, hsrc⟩) hfit hi1 ?_; intro w4 hr4 hk4))
  have hcp : (p : Int) < (l.length : Int) + 1 := by omega
  clear hdst hsrc hR2 hi1 hcs hmn
  generalize (if cap = p + 1 then (some ⟨g, off, none⟩ : Option Addr) else some ⟨g, off + (p + 1), none⟩) = ad1
  go_wp2_with (refine wpList_store_in rfl 2 (.tmp 22) (.tmp 21) rfl hr4.out (.int .i64 d) p _ rfl (by omega) rfl infoI1 rfl (ints_one [d]) (by omega) ?_; intro w5 hr5 hk5)
  go_ret
  refine ⟨g, off, cap, rfl, ?_, ?_, ?_⟩
  · have hr6 := hr5.out
    have e1 := fm_splice encI_length (l ++ [d]) (l.drop p) (p + 1)
    have e2 := fm_splice encI_length (splice (l ++ [d]) (p + 1) (l.drop p)) [d] p
    rw [splice_ins l p d hp] at e2
    have e3 : ints l ++ ints [d] = (l ++ [d]).flatMap encI := by unfold ints; rw [List.flatMap_append]
    unfold RowI
    have e4 : (l.take p ++ d :: l.drop p).length = l.length + 1 := by simp; omega
    rw [e4]
    show RowIn w5 2 1 g off (l.length + 1) cap ((l.take p ++ d :: l.drop p).flatMap encI)
    rw [← e2, ← e1, ← e3]
    exact hr6
  · have ho : ∀ k, k < w.heap.size → (fun b => b = g) k → v.ownBlock = some k := by
      rintro k hk0 rfl
      rcases hg.out with h | h
      · exact h
      · simp at h; omega
    have k1 : KeptOff (fun k => v.ownBlock = some k) w (w.alloc (.cells #[.int .i64 d] 2)) := .of_below ((Below.refl _ w).alloc (Nat.le_refl _) _)
    exact ((k1.trans hk.out).then_new hk4.out.undrew ho).then_new hk5.out ho
  · exact hg.out.imp id (fun h => by simp at h; omega)

theorem flat_eq (l : List M) : flat l = l.flatMap encM := rfl
set_option maxHeartbeats 4000000 in
set_option maxRecDepth 100000 in
theorem withM_any {w : World} {v : Value} {l : List M} (h : AtM w v l) (p : Nat) (hp : p ≤ l.length) (m : M) (hl : l.length < 1000000) :
    Calls Tryz.prog 104 #[v, .int .i64 p, m.val] w fun e w' => ∃ g off cap, e = .returned (.slice (some ⟨g, off, none⟩) (l.length + 1) cap) ∧ RowM w' g off cap (l.take p ++ m :: l.drop p) ∧
      KeptOff (fun k => v.ownBlock = some k) w w' ∧ (v.ownBlock = some g ∨ w.heap.size ≤ g) := by
  have mixed := mixed
  obtain ⟨i0, hi, hz0, hz1, hz2⟩ := info_parts infoM
  have hl' := Lib.hid hl
  have hB0 := Lib.hid (BoxM.mk w m)
  have h1 : Hid (RowAt ((w.alloc (.cells m.cells 34)).alloc (.cells m.cells 34)) 34 7 v l.length (flat l)) := RowAt.kept (S := fun _ => False) h (.of_below (((Below.refl _ w).alloc (Nat.le_refl _) _).alloc (by simp) _)) (fun _ _ e => e)
  have hvl := Lib.hid (RowAt.lt h)
  have k1 : Hid (KeptOff (fun k => v.ownBlock = some k) w ((w.alloc (.cells m.cells 34)).alloc (.cells m.cells 34))) := .of_below (((Below.refl _ w).alloc (Nat.le_refl _) _).alloc (by simp) _)
  clear h
  obtain ⟨-, x0, x1, x2, x3, x4, x5, x6⟩ := hB0.out.at
  simp only [Nat.zero_add] at x0 x1 x2 x3 x4 x5 x6
  have hbx : Hid (∀ W, KeptOff (fun k => v.ownBlock = some k) ((w.alloc (.cells m.cells 34)).alloc (.cells m.cells 34)) W → BoxM W w.heap.size m) := fun W hW => by
    have b1 : BoxM ((w.alloc (.cells m.cells 34)).alloc (.cells m.cells 34)) w.heap.size m := hB0.out.below ((Below.refl _ _).alloc (Nat.le_refl _) _)
    exact b1.kept hW (fun e => by have := hvl.out _ e; omega)
  have hnew : ∀ j u, (flat [m])[j]? = some u → ((w.alloc (.cells m.cells 34)).alloc (.cells m.cells 34)).cell? ((⟨w.heap.size + 1, 0, none⟩ : Addr).add j) = some u := by
    have e := heap_alloc_new (w.alloc (.cells m.cells 34)) (.cells m.cells 34)
    have e1 : (w.alloc (.cells m.cells 34)).heap.size = w.heap.size + 1 := by simp
    rw [e1] at e
    exact World.news_of_block (cs := m.cells) e
  simp only [M.val, M.cells] at x0 x1 x2 x3 x4 x5 x6 hnew ⊢
  go_enter Tryz.func104, Tryz.ntmps104
  go_upto_region 2 with (at_builtin; refine wpList_append_row rfl (.tmp 7) (.tmp 9) 38 rfl h1.out i0 _ 56 Tryz.underlying38 hi hz0 hz1 hz2 rfl (by omega) rfl ⟨w.heap.size + 1, 0, none⟩ 1 (flat [m]) rfl rfl hnew (flat_one _) (by have := hl'.out; unfold maxLen; omega) (by have := hl'.out; omega) ?_; intro g off cap w2 hr hk hg)
  have hB4 := hbx.out w2 hk.out
  clear x0 x1 x2 x3 x4 x5 x6
  have hw1 : IntKind.i64.wrap ((p : Int) + 1) = (p : Int) + 1 := IntWalk.i64_in _ (by have := hl'.out; omega)
  have hcap := hr.out.bounds
  have hc1 : p + 1 ≤ cap := by omega
  have hc2 : p ≤ cap := by omega
  have hc3 : (p : Int) + 1 ≤ (l.length : Int) + 1 := by omega
  have hc4 : (p : Int) ≤ (l.length : Int) + 1 := by omega
  have hc5 : 0 ≤ (p : Int) + 1 := by omega
  have hc6 : ((p : Int) + 1).toNat = p + 1 := by omega
  have hcs : (flat (l.drop p)).length = (l.length - p) * 7 := by rw [flat_length, List.length_drop]
  have hmn : Nat.min (l.length + 1 - p) (l.length - p) = l.length - p := by show min _ _ = _; omega
  have hne : ¬ cap = p := by omega
  have hfit : p + 1 + (l.length - p) ≤ l.length + 1 := by omega
  have hcell : ∀ j u, (flat (l.drop p))[j]? = some u → (flat l ++ flat [m])[p * 7 + j]? = some u := fun j u hj => by
    have hj' : j < (l.length - p) * 7 := by
      have := (List.getElem?_eq_some_iff.1 hj).1
      rw [hcs] at this
      omega
    rw [List.getElem?_append_left (by rw [flat_length]; omega)]
    rw [flat_eq, fm_drop encM_length, List.getElem?_drop] at hj
    exact hj
  have hdst : 0 < l.length - p → (if cap = p + 1 then (some ⟨g, off, none⟩ : Option Addr) else some ⟨g, off + (p + 1) * 7, none⟩) = some ⟨g, off + (p + 1) * 7, none⟩ := fun h0 => by rw [if_neg (by omega)]
  have hR2 : RowIn w2.drew 34 7 g off (l.length + 1) cap (flat l ++ flat [m]) := hr.out.block rfl
  have hsrc : ∀ j u, (flat (l.drop p))[j]? = some u → w2.drew.cell? ((⟨g, off + p * 7, none⟩ : Addr).add j) = some u := fun j u hj => hR2.cellA (p * 7) (hcell j u hj)
  have hi1 := flat_one (l.drop p)
  clear hcell
  go_region_held3 (fun _ => True) (trivial) (first
    | (refine step_copy_row rfl (.tmp 14) (.tmp 17) 38 38 rfl hR2 34 Tryz.underlying38 infoS _ _ _ _ _ _ (p + 1) (l.length - p) (flat (l.drop p)) rfl rfl hcs hmn (fun h0 => ⟨hdst h0, _, rfl, hsrc⟩) hfit hi1 ?_; intro w4 hr4 hk4))
  have hcp : (p : Int) < (l.length : Int) + 1 := by omega
  clear hdst hsrc hR2 hi1 hcs hmn
  generalize (if cap = p + 1 then (some ⟨g, off, none⟩ : Option Addr) else some ⟨g, off + (p + 1) * 7, none⟩) = ad1
  have hgw : g ≠ w.heap.size := by
    rcases hg.out with h | h
    · have := hvl.out g h; omega
    · simp at h; omega
  have hB5 := hB4.kept hk4.out.undrew (fun e => hgw e.symm)
  obtain ⟨-, x0, x1, x2, x3, x4, x5, x6⟩ := hB5.at
  simp only [Nat.zero_add] at x0 x1 x2 x3 x4 x5 x6
  go_wp2_with (refine wpList_store_in rfl 34 (.tmp 22) (.tmp 21) rfl hr4.out m.val p _ rfl (by omega) rfl infoS rfl (fun x hx => encM_one m x hx) (by omega) ?_; intro w5 hr5 hk5)
  go_ret
  refine ⟨g, off, cap, rfl, ?_, ?_, ?_⟩
  · have hr6 := hr5.out
    have e1 := fm_splice encM_length (l ++ [m]) (l.drop p) (p + 1)
    have e2 := fm_splice encM_length (splice (l ++ [m]) (p + 1) (l.drop p)) [m] p
    rw [splice_ins l p m hp] at e2
    have e3 : flat l ++ flat [m] = (l ++ [m]).flatMap encM := (flat_append l [m]).symm
    unfold RowM
    have e4 : (l.take p ++ m :: l.drop p).length = l.length + 1 := by simp; omega
    rw [e4]
    show RowIn w5 34 7 g off (l.length + 1) cap ((l.take p ++ m :: l.drop p).flatMap encM)
    rw [← e2, ← e1, ← e3]
    exact hr6
  · have ho : ∀ k, k < w.heap.size → (fun b => b = g) k → v.ownBlock = some k := by
      rintro k hk0 rfl
      rcases hg.out with h | h
      · exact h
      · simp at h; omega
    exact ((k1.out.trans hk.out).then_new hk4.out.undrew ho).then_new hk5.out ho
  · exact hg.out.imp id (fun h => by simp at h; omega)
end Go.Proofs.YtjlbkdghlijoeaaGreat
namespace Go.Proofs.YtjlbkdghlijoeaaGreat
open Go.ChangeShapes Go.WideShapes Go.ChangeAt Go.Shelf Go.RowKit Go.Lib Go.Sort Go.Deep
set_option linter.unusedVariables false

section
variable {α : Type}
theorem splice_out1 (l : List α) (p : Nat) (hp : p + 1 < l.length) : (splice l 1 (l.take p)).drop 1 = l.eraseIdx p := by
  have h1 : 1 + (l.take p).length ≤ l.length := by rw [List.length_take]; omega
  apply List.ext_getElem?
  intro j
  rw [List.getElem?_drop, splice_get _ _ _ h1, if_neg (by omega), List.getElem?_eraseIdx, List.length_take]
  by_cases a : j < p
  · rw [if_pos (by omega), if_pos a, show 1 + j - 1 = j by omega, List.getElem?_take_of_lt a]
  · rw [if_neg (by omega), if_neg a, Nat.add_comm]
theorem splice_out2 (l : List α) (p : Nat) (hp : p < l.length) : (splice l p (l.drop (p + 1))).take (l.length - 1) = l.eraseIdx p := by
  have h1 : p + (l.drop (p + 1)).length ≤ l.length := by rw [List.length_drop]; omega
  apply List.ext_getElem?
  intro j
  by_cases b : j < l.length - 1
  · rw [List.getElem?_take_of_lt b, splice_get _ _ _ h1, List.getElem?_eraseIdx, List.length_drop]
    by_cases a : j < p
    · rw [if_pos a, if_pos a]
    · rw [if_neg a, if_neg a, if_pos (by omega), List.getElem?_drop]
      congr 1
      omega
  · rw [List.getElem?_take_eq_none (by omega), List.getElem?_eq_none (by rw [List.length_eraseIdx_of_lt hp]; omega)]
end

set_option maxHeartbeats 4000000 in
set_option maxRecDepth 100000 in
theorem withoutI_any {w : World} {g off cap : Nat} {l : List Int} (h : RowI w g off cap l) (p : Nat) (hp : p < l.length) (hl : l.length < 1000000) :
    Calls Tryz.prog 112 #[.slice (some ⟨g, off, none⟩) l.length cap, .int .i64 p] w fun e w' => ∃ off' cap', e = .returned (.slice (some ⟨g, off', none⟩) (l.length - 1) cap') ∧ RowI w' g off' cap' (l.eraseIdx p) ∧ KeptOff (fun k => k = g) w w' := by
  have mixed := mixed
  have hl' := Lib.hid hl
  have hr : Hid (RowIn w 2 1 g off l.length cap (ints l)) := h
  have hb := hr.out.bounds
  clear h
  have hw1 : IntKind.i64.wrap ((p : Int) + 1) = (p : Int) + 1 := IntWalk.i64_in _ (by have := hl'.out; omega)
  have hc1 : p ≤ cap := by omega
  have hc2 : p ≤ l.length := by omega
  have hc3 : p + 1 ≤ cap := by omega
  have hc4 : p + 1 ≤ l.length := by omega
  have hc5 : (p : Int) ≤ (l.length : Int) := by omega
  have hc6 : (p : Int) + 1 ≤ (l.length : Int) := by omega
  have hc7 : 0 ≤ (p : Int) + 1 := by omega
  have hc8 : ((p : Int) + 1).toNat = p + 1 := by omega
  have hc9 : (p : Int) ≤ (cap : Int) := by omega
  have hca : (p : Int) + 1 ≤ (cap : Int) := by omega
  have hne : ¬ cap = p := by omega
  have hlen : (ints l).length = l.length * 1 := hb.2.2
  have hR2 : RowIn w.drew 2 1 g off l.length cap (ints l) := hr.out.block rfl
  go_enter Tryz.func112, Tryz.ntmps112
  go_upto_region 1 with (fail)
  go_region_held3 (fun _ => True) (trivial) (fail)
  have hsrcB : 0 < l.length - (p + 1) → (if cap = p + 1 then (some ⟨g, off, none⟩ : Option Addr) else some ⟨g, off + (p + 1), none⟩) = some ⟨g, off + (p + 1) * 1, none⟩ := fun h0 => by rw [if_neg (by omega), Nat.mul_one]
  generalize (if cap = p + 1 then (some ⟨g, off, none⟩ : Option Addr) else some ⟨g, off + (p + 1), none⟩) = ad1 at hsrcB ⊢
  generalize hW : w.drew = W at hR2 ⊢
  by_cases hlt : p < l.length - (p + 1)
  · have hz : (p : Int) < ((l.length - (p + 1) : Nat) : Int) := by omega
    have hd1 : ¬ cap = 1 := by omega
    have hd2 : 1 ≤ l.length := by omega
    have hd3 : 1 ≤ cap := by omega
    have hd4 : (1 : Int) ≤ (l.length : Int) := by omega
    have hcs : (ints (l.take p)).length = p * 1 := by rw [ints_length, List.length_take, Nat.min_eq_left hc2, Nat.mul_one]
    have hmn : Nat.min p (l.length - 1) = p := by show min _ _ = _; omega
    have hcell : ∀ j u, (ints (l.take p))[j]? = some u → W.cell? ((⟨g, off, none⟩ : Addr).add j) = some u := fun j u hj => by
      have hj' : j < p * 1 := by
        have := (List.getElem?_eq_some_iff.1 hj).1
        rwa [hcs] at this
      rw [show ∀ x, ints x = x.flatMap encI from fun _ => rfl, fm_take encI_length, List.getElem?_take_of_lt hj'] at hj
      rw [Addr.add_lit]
      exact hR2.cell hj
    have hfit : 1 + p ≤ l.length := by omega
    have hi1 := ints_one (l.take p)
    go_upto_region 4 with (refine wpList_copy_row rfl (.tmp 21) (.tmp 22) 99 99 rfl hR2 2 Tryz.underlying99 infoI1 _ _ _ _ _ _ 1 p (ints (l.take p)) rfl rfl hcs hmn (fun h0 => ⟨rfl, _, rfl, hcell⟩) hfit hi1 ?_; intro w4 hr4 hk4)
    go_wp2
    go_ret
    have hr5 := hr4.out.part 1 (l.length - 1) (by omega)
    refine ⟨off + 1 * 1, cap - 1, rfl, ?_, (by subst hW; exact hk4.out.undrew)⟩
    unfold RowI
    rw [List.length_eraseIdx_of_lt hp]
    have e1 := fm_splice encI_length l (l.take p) 1
    have e2 : ((splice (ints l) (1 * 1) (ints (l.take p))).drop (1 * 1)).take ((l.length - 1) * 1) = ints (l.eraseIdx p) := by
      show ((splice (ints l) (1 * 1) (ints (l.take p))).drop (1 * 1)).take ((l.length - 1) * 1) = _
      rw [show splice (ints l) (1 * 1) (ints (l.take p)) = (splice l 1 (l.take p)).flatMap encI from e1, ← fm_drop encI_length, splice_out1 l p (by omega)]
      refine List.take_of_length_le ?_
      rw [fm_length encI_length, List.length_eraseIdx_of_lt hp]
      omega
    rw [← e2]
    exact hr5
  · have hz : ¬ (p : Int) < ((l.length - (p + 1) : Nat) : Int) := by omega
    have hw2 : IntKind.i64.wrap ((l.length : Int) - 1) = (l.length : Int) - 1 := IntWalk.i64_in _ (by have := hl'.out; omega)
    have hd1 : 0 ≤ (l.length : Int) - 1 := by omega
    have hd2 : ((l.length : Int) - 1).toNat = l.length - 1 := by omega
    have hd3 : l.length - 1 ≤ cap := by omega
    have hd4 : (l.length : Int) - 1 ≤ (cap : Int) := by omega
    have hcs : (ints (l.drop (p + 1))).length = (l.length - (p + 1)) * 1 := by rw [ints_length, List.length_drop, Nat.mul_one]
    have hmn : Nat.min (l.length - (p + 1)) (l.length - p) = l.length - (p + 1) := by show min _ _ = _; omega
    have hcell : ∀ j u, (ints (l.drop (p + 1)))[j]? = some u → W.cell? ((⟨g, off + (p + 1) * 1, none⟩ : Addr).add j) = some u := fun j u hj => by
      rw [show ∀ x, ints x = x.flatMap encI from fun _ => rfl, fm_drop encI_length, List.getElem?_drop] at hj
      exact hR2.cellA _ hj
    have hfit : p + (l.length - (p + 1)) ≤ l.length := by omega
    have hi1 := ints_one (l.drop (p + 1))
    go_upto_region 6 with (refine wpList_copy_row rfl (.tmp 28) (.tmp 29) 99 99 rfl hR2 2 Tryz.underlying99 infoI1 _ _ _ _ _ _ p (l.length - (p + 1)) (ints (l.drop (p + 1))) rfl rfl hcs hmn (fun h0 => ⟨by rw [Nat.mul_one], _, hsrcB h0, hcell⟩) hfit hi1 ?_; intro w4 hr4 hk4)
    go_wp2
    go_ret
    have hr5 := hr4.out.part 0 (l.length - 1) (by omega)
    refine ⟨off, cap, rfl, ?_, (by subst hW; exact hk4.out.undrew)⟩
    unfold RowI
    rw [List.length_eraseIdx_of_lt hp]
    have e1 := fm_splice encI_length l (l.drop (p + 1)) p
    have e2 : ((splice (ints l) (p * 1) (ints (l.drop (p + 1)))).drop (0 * 1)).take ((l.length - 1) * 1) = ints (l.eraseIdx p) := by
      rw [show splice (ints l) (p * 1) (ints (l.drop (p + 1))) = (splice l p (l.drop (p + 1))).flatMap encI from e1, ← fm_drop encI_length, ← fm_take encI_length, List.drop_zero, splice_out2 l p hp]
      rfl
    rw [e2] at hr5
    simpa using hr5

set_option maxHeartbeats 4000000 in
set_option maxRecDepth 100000 in
theorem withoutM_any {w : World} {g off cap : Nat} {l : List M} (h : RowM w g off cap l) (p : Nat) (hp : p < l.length) (hl : l.length < 1000000) :
    Calls Tryz.prog 107 #[.slice (some ⟨g, off, none⟩) l.length cap, .int .i64 p] w fun e w' => ∃ off' cap', e = .returned (.slice (some ⟨g, off', none⟩) (l.length - 1) cap') ∧ RowM w' g off' cap' (l.eraseIdx p) ∧ KeptOff (fun k => k = g) w w' := by
  have mixed := mixed
  have hl' := Lib.hid hl
  have hr : Hid (RowIn w 34 7 g off l.length cap (flat l)) := h
  have hb := hr.out.bounds
  clear h
  have hw1 : IntKind.i64.wrap ((p : Int) + 1) = (p : Int) + 1 := IntWalk.i64_in _ (by have := hl'.out; omega)
  have hc1 : p ≤ cap := by omega
  have hc2 : p ≤ l.length := by omega
  have hc3 : p + 1 ≤ cap := by omega
  have hc4 : p + 1 ≤ l.length := by omega
  have hc5 : (p : Int) ≤ (l.length : Int) := by omega
  have hc6 : (p : Int) + 1 ≤ (l.length : Int) := by omega
  have hc7 : 0 ≤ (p : Int) + 1 := by omega
  have hc8 : ((p : Int) + 1).toNat = p + 1 := by omega
  have hc9 : (p : Int) ≤ (cap : Int) := by omega
  have hca : (p : Int) + 1 ≤ (cap : Int) := by omega
  have hne : ¬ cap = p := by omega
  have hlen : (flat l).length = l.length * 7 := hb.2.2
  have hR2 : RowIn w.drew 34 7 g off l.length cap (flat l) := hr.out.block rfl
  go_enter Tryz.func107, Tryz.ntmps107
  go_upto_region 1 with (fail)
  go_region_held3 (fun _ => True) (trivial) (fail)
  have hsrcB : 0 < l.length - (p + 1) → (if cap = p + 1 then (some ⟨g, off, none⟩ : Option Addr) else some ⟨g, off + (p + 1) * 7, none⟩) = some ⟨g, off + (p + 1) * 7, none⟩ := fun h0 => by rw [if_neg (by omega)]
  generalize (if cap = p + 1 then (some ⟨g, off, none⟩ : Option Addr) else some ⟨g, off + (p + 1) * 7, none⟩) = ad1 at hsrcB ⊢
  generalize hW : w.drew = W at hR2 ⊢
  by_cases hlt : p < l.length - (p + 1)
  · have hz : (p : Int) < ((l.length - (p + 1) : Nat) : Int) := by omega
    have hd1 : ¬ cap = 1 := by omega
    have hd2 : 1 ≤ l.length := by omega
    have hd3 : 1 ≤ cap := by omega
    have hd4 : (1 : Int) ≤ (l.length : Int) := by omega
    have hcs : (flat (l.take p)).length = p * 7 := by rw [flat_length, List.length_take, Nat.min_eq_left hc2]
    have hmn : Nat.min p (l.length - 1) = p := by show min _ _ = _; omega
    have hcell : ∀ j u, (flat (l.take p))[j]? = some u → W.cell? ((⟨g, off, none⟩ : Addr).add j) = some u := fun j u hj => by
      have hj' : j < p * 7 := by
        have := (List.getElem?_eq_some_iff.1 hj).1
        rwa [hcs] at this
      rw [flat_eq, fm_take encM_length, List.getElem?_take_of_lt hj'] at hj
      rw [Addr.add_lit]
      exact hR2.cell hj
    have hfit : 1 + p ≤ l.length := by omega
    have hi1 := flat_one (l.take p)
    go_upto_region 4 with (refine wpList_copy_row rfl (.tmp 21) (.tmp 22) 38 38 rfl hR2 34 Tryz.underlying38 infoS _ _ _ _ _ _ 1 p (flat (l.take p)) rfl rfl hcs hmn (fun h0 => ⟨rfl, _, rfl, hcell⟩) hfit hi1 ?_; intro w4 hr4 hk4)
    go_wp2
    go_ret
    have hr5 := hr4.out.part 1 (l.length - 1) (by omega)
    refine ⟨off + 1 * 7, cap - 1, rfl, ?_, (by subst hW; exact hk4.out.undrew)⟩
    unfold RowM
    rw [List.length_eraseIdx_of_lt hp]
    have e1 := fm_splice encM_length l (l.take p) 1
    have e2 : ((splice (flat l) (1 * 7) (flat (l.take p))).drop (1 * 7)).take ((l.length - 1) * 7) = flat (l.eraseIdx p) := by
      show ((splice (flat l) (1 * 7) (flat (l.take p))).drop (1 * 7)).take ((l.length - 1) * 7) = _
      rw [show splice (flat l) (1 * 7) (flat (l.take p)) = (splice l 1 (l.take p)).flatMap encM from e1, ← fm_drop encM_length, splice_out1 l p (by omega)]
      refine List.take_of_length_le ?_
      rw [fm_length encM_length, List.length_eraseIdx_of_lt hp]
      omega
    rw [← e2]
    exact hr5
  · have hz : ¬ (p : Int) < ((l.length - (p + 1) : Nat) : Int) := by omega
    have hw2 : IntKind.i64.wrap ((l.length : Int) - 1) = (l.length : Int) - 1 := IntWalk.i64_in _ (by have := hl'.out; omega)
    have hd1 : 0 ≤ (l.length : Int) - 1 := by omega
    have hd2 : ((l.length : Int) - 1).toNat = l.length - 1 := by omega
    have hd3 : l.length - 1 ≤ cap := by omega
    have hd4 : (l.length : Int) - 1 ≤ (cap : Int) := by omega
    have hcs : (flat (l.drop (p + 1))).length = (l.length - (p + 1)) * 7 := by rw [flat_length, List.length_drop]
    have hmn : Nat.min (l.length - (p + 1)) (l.length - p) = l.length - (p + 1) := by show min _ _ = _; omega
    have hcell : ∀ j u, (flat (l.drop (p + 1)))[j]? = some u → W.cell? ((⟨g, off + (p + 1) * 7, none⟩ : Addr).add j) = some u := fun j u hj => by
      rw [flat_eq, fm_drop encM_length, List.getElem?_drop] at hj
      exact hR2.cellA _ hj
    have hfit : p + (l.length - (p + 1)) ≤ l.length := by omega
    have hi1 := flat_one (l.drop (p + 1))
    go_upto_region 6 with (refine wpList_copy_row rfl (.tmp 28) (.tmp 29) 38 38 rfl hR2 34 Tryz.underlying38 infoS _ _ _ _ _ _ p (l.length - (p + 1)) (flat (l.drop (p + 1))) rfl rfl hcs hmn (fun h0 => ⟨rfl, _, hsrcB h0, hcell⟩) hfit hi1 ?_; intro w4 hr4 hk4)
    go_wp2
    go_ret
    have hr5 := hr4.out.part 0 (l.length - 1) (by omega)
    refine ⟨off, cap, rfl, ?_, (by subst hW; exact hk4.out.undrew)⟩
    unfold RowM
    rw [List.length_eraseIdx_of_lt hp]
    have e1 := fm_splice encM_length l (l.drop (p + 1)) p
    have e2 : ((splice (flat l) (p * 7) (flat (l.drop (p + 1)))).drop (0 * 7)).take ((l.length - 1) * 7) = flat (l.eraseIdx p) := by
      rw [show splice (flat l) (p * 7) (flat (l.drop (p + 1))) = (splice l p (l.drop (p + 1))).flatMap encM from e1, ← fm_drop encM_length, ← fm_take encM_length, List.drop_zero, splice_out2 l p hp]
      rfl
    rw [e2] at hr5
    simpa using hr5
end Go.Proofs.YtjlbkdghlijoeaaGreat
