/-
  The program's model: which processes there are; the place of the link between two.
-/
import Derived.Test.YtofkfajcibdneaaDoorNC
namespace Go.Proofs.YtofkfajcibdneaaDoor
open Go.ChangeShapes Go.WideShapes Go.ChangeAt Go.Shelf Go.RowKit Go.Lib Go.Sort Go.Deep
set_option linter.unusedVariables false
set_option linter.unusedSimpArgs false
set_option maxRecDepth 4000

theorem mdIsProc_any {w : World} {v : Mv} {M : Md} (h : Mds w v M) (n : Int) : Calls Tryd.prog 40 #[v.val M, .int .i64 n] w fun e w' => e = .returned (.bool (boolOf (0 ≤ n ∧ n < (v.pl : Int)))) ∧ Hid (Below w.heap.size w w') := by
  have hbW : Hid (Below w.heap.size w (w.alloc (.cells (v.cells M) 27))) := (Below.refl _ w).alloc (Nat.le_refl _) _
  have hbx := Lib.hid h.box
  clear h
  simp only [Mv.val, Mv.cells] at hbx hbW ⊢
  by_cases h0 : 0 ≤ n
  · by_cases h1 : n < (v.pl : Int)
    · rw [boolOf_true ⟨h0, h1⟩]
      go_enter Tryd.func40, Tryd.ntmps40
      go_upto_region 1 with fail
      generalize w.heap.size = B at hbx ⊢
      generalize w.alloc _ = W at *
      have c0 := hbx.out.c0
      go_wp2
      go_ret
      exact ⟨rfl, hbW⟩
    · rw [boolOf_false (fun e => h1 e.2)]
      go_enter Tryd.func40, Tryd.ntmps40
      go_upto_region 1 with fail
      generalize w.heap.size = B at hbx ⊢
      generalize w.alloc _ = W at *
      have c0 := hbx.out.c0
      go_wp2
      go_ret
      exact ⟨rfl, hbW⟩
  · rw [boolOf_false (fun e => h0 e.1)]
    go_enter Tryd.func40, Tryd.ntmps40
    go_upto_region 1 with fail
    generalize w.heap.size = B at hbx ⊢
    generalize w.alloc _ = W at *
    have c0 := hbx.out.c0
    go_wp2
    go_ret
    exact ⟨rfl, hbW⟩
/-- The place of the link between two. -/
def wayU (ls : List Lk) (a b : Int) : Nat → Int
  | 0 => -1
  | i + 1 => if wayU ls a b i < 0 ∧ (ls.getD i default).src = a ∧ (ls.getD i default).dst = b then i else wayU ls a b i
theorem wayU_stay {ls : List Lk} {a b : Int} {i : Nat} (h : 0 ≤ wayU ls a b i) : ∀ d, wayU ls a b (i + d) = wayU ls a b i
  | 0 => rfl
  | d + 1 => by
    have ih := wayU_stay h d
    rw [show i + (d + 1) = (i + d) + 1 from rfl, wayU, if_neg (fun e => by omega), ih]
theorem wayU_hit {ls : List Lk} {a b : Int} {k n : Nat} (h : wayU ls a b k = -1) (hk : k < n) (h1 : (ls.getD k default).src = a) (h2 : (ls.getD k default).dst = b) : wayU ls a b n = k := by
  have e : wayU ls a b (k + 1) = k := by rw [wayU, if_pos ⟨by omega, h1, h2⟩]
  have := wayU_stay (ls := ls) (a := a) (b := b) (i := k + 1) (by omega) (n - (k + 1))
  rw [show k + 1 + (n - (k + 1)) = n by omega] at this
  rw [this, e]
theorem wayU_miss {ls : List Lk} {a b : Int} {k : Nat} (h : wayU ls a b k = -1) (h1 : ¬ ((ls.getD k default).src = a ∧ (ls.getD k default).dst = b)) : wayU ls a b (k + 1) = -1 := by
  rw [wayU, if_neg (fun e => h1 e.2), h]
theorem mdWay1_any (l : Lk) (a b : Int) {w : World} {p q : Nat} (hp : w.heap[p]? = some (.cells #[.int .i64 a] 3 (0, 0))) (hq : w.heap[q]? = some (.cells #[.int .i64 b] 3 (0, 0))) :
    Calls Tryd.prog 35 #[l.val, .pointer (some ⟨p, 0, none⟩), .pointer (some ⟨q, 0, none⟩)] w fun e w' => e = .returned (.bool (decide (l.src = a ∧ l.dst = b))) ∧ Hid (Below w.heap.size w w') := by
  obtain ⟨src, dst, look, loose⟩ := l
  have hbW : Hid (Below w.heap.size w (w.alloc (.cells #[.int .i64 src, .int .i64 dst, .int .i64 look, .bool loose] 43))) := (Below.refl _ w).alloc (Nat.le_refl _) _
  have hna := Lib.hid (heap_alloc_new w (.cells #[.int .i64 src, .int .i64 dst, .int .i64 look, .bool loose] 43))
  have hp' := Lib.hid ((hbW.out.block p (Array.getElem?_eq_some_iff.1 hp).1).trans hp)
  have hq' := Lib.hid ((hbW.out.block q (Array.getElem?_eq_some_iff.1 hq).1).trans hq)
  clear hp hq
  simp only [Lk.val]
  by_cases h1 : src = a
  · by_cases h2 : dst = b
    · rw [decide_eq_true ⟨h1, h2⟩]
      subst h1 h2
      go_enter Tryd.func35, Tryd.ntmps35
      go_upto_region 1 with fail
      generalize w.heap.size = B at hna ⊢
      generalize w.alloc _ = W at *
      have y0 := cell_of_block (o := 0) hna.out rfl
      have y1 := cell_of_block (o := 1) hna.out rfl
      have e0 := cell_of_block (o := 0) hp'.out rfl
      have e1 := cell_of_block (o := 0) hq'.out rfl
      go_wp2
      go_ret
      exact ⟨rfl, hbW⟩
    · rw [decide_eq_false (fun e => h2 e.2)]
      have hz : (dst == b) = false := by simp [h2]
      subst h1
      go_enter Tryd.func35, Tryd.ntmps35
      go_upto_region 1 with fail
      generalize w.heap.size = B at hna ⊢
      generalize w.alloc _ = W at *
      have y0 := cell_of_block (o := 0) hna.out rfl
      have y1 := cell_of_block (o := 1) hna.out rfl
      have e0 := cell_of_block (o := 0) hp'.out rfl
      have e1 := cell_of_block (o := 0) hq'.out rfl
      go_wp2
      go_ret
      exact ⟨rfl, hbW⟩
  · rw [decide_eq_false (fun e => h1 e.1)]
    have hz : (src == a) = false := by simp [h1]
    go_enter Tryd.func35, Tryd.ntmps35
    go_upto_region 1 with fail
    generalize w.heap.size = B at hna ⊢
    generalize w.alloc _ = W at *
    have y0 := cell_of_block (o := 0) hna.out rfl
    have y1 := cell_of_block (o := 1) hna.out rfl
    have e0 := cell_of_block (o := 0) hp'.out rfl
    have e1 := cell_of_block (o := 0) hq'.out rfl
    go_wp2
    go_ret
    exact ⟨rfl, hbW⟩
set_option maxHeartbeats 4000000 in
theorem index13_any {w : World} {a : Option Addr} {len cap p q : Nat} {ls : List Lk} (h : Lks w a len cap ls) (x y : Int) (hp : w.heap[p]? = some (.cells #[.int .i64 x] 3 (0, 0))) (hq : w.heap[q]? = some (.cells #[.int .i64 y] 3 (0, 0))) :
    Calls Tryd.prog 34 #[.slice a len cap, .func (.func 35) #[] #[.pointer (some ⟨p, 0, none⟩), .pointer (some ⟨q, 0, none⟩)]] w fun e w' => e = .returned (.int .i64 (wayU ls x y len)) ∧ Hid (Below w.heap.size w w') := by
  have hmx : len ≤ 9223372036854775807 := by have := h.2.1; have := h.2.2.1; unfold maxLen at *; omega
  have hL := Lib.hid h
  have hp' := Lib.hid hp
  have hq' := Lib.hid hq
  obtain ⟨z, hz⟩ : ∃ z, Hid (wayU ls x y len = z) := ⟨_, Lib.hid rfl⟩
  rw [hz.out]
  clear h hp hq
  go_enter Tryd.func34, Tryd.ntmps34
  go_wp2_with fail
  go_loopw [8] (fun i wr => ∃ k : Nat, k ≤ len ∧ i = .int .i64 k ∧ Hid (Below w.heap.size w wr) ∧ Hid (wayU ls x y k = -1)) (fun i _ => len - (intOf i).toNat)
  case atStart => exact ⟨0, Nat.zero_le _, rfl, Below.refl _ _, Lib.hid rfl⟩
  case round =>
    obtain ⟨k, hk, rfl, hrk, hup⟩ := hrel
    by_cases hlt : k < len
    · obtain ⟨b, off, rfl, hm⟩ := hL.out.get hlt
      have hx := hm.below hrk.out
      clear hm
      have hcon := Lib.hid (mdWay1_any (ls.getD k default) x y ((hrk.out.block p (Array.getElem?_eq_some_iff.1 hp'.out).1).trans hp'.out) ((hrk.out.block q (Array.getElem?_eq_some_iff.1 hq'.out).1).trans hq'.out))
      have hlt' := Lib.hid hlt
      have hwk : IntKind.i64.wrap ((k : Int) + 1) = (k : Int) + 1 := IntWalk.i64_in _ (by omega)
      by_cases hb : (ls.getD k default).src = x ∧ (ls.getD k default).dst = y
      · rw [decide_eq_true hb] at hcon
        have hz2 : Hid (z = (k : Int)) := Lib.hid (by rw [← hz.out]; exact wayU_hit hup.out hlt hb.1 hb.2)
        clear hb
        generalize hl : ls.getD k default = l at hx hcon
        clear hl
        obtain ⟨src, dst, look, loose⟩ := l
        obtain ⟨-, x0, x1, x2, x3⟩ := hx
        simp only [Lk.val] at hcon x0 x1 x2 x3
        go_wp2_with (go_at_call 35; refine hcon.out.mono ?_; rintro e w' ⟨rfl, hr2⟩; have hb2 : Hid (Below w.heap.size w w') := hrk.out.trans (hr2.out.mono hrk.out.size))
        go_ret
        exact ⟨by rw [hz2.out]; rfl, hb2⟩
      · rw [decide_eq_false hb] at hcon
        have hu2 : Hid (wayU ls x y (k + 1) = -1) := Lib.hid (wayU_miss hup.out hb)
        clear hb
        generalize hl : ls.getD k default = l at hx hcon
        clear hl
        obtain ⟨src, dst, look, loose⟩ := l
        obtain ⟨-, x0, x1, x2, x3⟩ := hx
        simp only [Lk.val] at hcon x0 x1 x2 x3
        go_wp2_with (go_at_call 35; refine hcon.out.mono ?_; rintro e w' ⟨rfl, hr2⟩; have hb2 : Hid (Below w.heap.size w w') := hrk.out.trans (hr2.out.mono hrk.out.size))
        go_roundw
        case rel => (repeat apply Exists.intro); first | exact ⟨⟨hlt'.out, by go_num, hb2, hu2⟩, rfl⟩ | exact ⟨hlt'.out, by go_num, hb2, hu2⟩
        case measure => have := hlt'.out; simp [intOf]; omega
    · obtain rfl : len = k := by omega
      have hz2 : Hid (z = -1) := Lib.hid (by rw [← hz.out]; exact hup.out)
      clear hlt
      go_wp2
      go_ret
      exact ⟨by rw [hz2.out]; rfl, hrk⟩
set_option maxHeartbeats 4000000 in
theorem mdWay_any {w : World} {v : Mv} {M : Md} (h : Mds w v M) (a b : Int) : Calls Tryd.prog 19 #[v.val M, .int .i64 a, .int .i64 b] w fun e w' => e = .returned (.int .i64 (wayU M.links a b M.links.length)) ∧ Hid (Below w.heap.size w w') := by
  have hb1 := Lib.hid ((Below.refl _ w).alloc (Nat.le_refl _) (.cells (v.cells M) 27))
  have hb2 := Lib.hid (hb1.out.alloc hb1.out.size (.cells #[.int .i64 a] 3))
  have hb3 := Lib.hid (hb2.out.alloc hb2.out.size (.cells #[.int .i64 b] 3))
  have hbx := Lib.hid ((h.box.below ((Below.refl _ _).alloc (Nat.le_refl _) (.cells #[.int .i64 a] 3))).below ((Below.refl _ _).alloc (Nat.le_refl _) (.cells #[.int .i64 b] 3)))
  have hpA := heap_alloc_new (w.alloc (.cells (v.cells M) 27)) (.cells #[.int .i64 a] 3)
  have hpB := heap_alloc_new ((w.alloc (.cells (v.cells M) 27)).alloc (.cells #[.int .i64 a] 3)) (.cells #[.int .i64 b] 3)
  have hpA2 := (((Below.refl _ _).alloc (Nat.le_refl _) (.cells #[.int .i64 b] 3)).block _ (Array.getElem?_eq_some_iff.1 hpA).1).trans hpA
  simp only [World.size_alloc] at hpA2 hpB
  have hpA' := Lib.hid hpA2
  have hpB' := Lib.hid hpB
  have hln : M.links.length = v.ll := h.2.1.1
  have hix := Lib.hid (index13_any hbx.out.2.2.1 a b hpA'.out hpB'.out)
  rw [hln]
  clear h hpA hpB hpA2 hln hb1 hb2 hpA' hpB'
  generalize wayU M.links a b v.ll = z at *
  simp only [Mv.val, Mv.cells] at hbx hb3 hix ⊢
  go_enter Tryd.func19, Tryd.ntmps19
  go_upto_region 1 with fail
  generalize ((w.alloc _).alloc _).alloc _ = W at *
  have c1 := hbx.out.c1
  clear hbx
  go_wp2_with (go_at_call 34; refine hix.out.mono ?_; rintro e w' ⟨rfl, hr2⟩; have hb4 : Hid (Below w.heap.size w w') := hb3.out.trans (hr2.out.mono hb3.out.size))
  go_ret
  exact ⟨rfl, hb4⟩
end Go.Proofs.YtofkfajcibdneaaDoor
