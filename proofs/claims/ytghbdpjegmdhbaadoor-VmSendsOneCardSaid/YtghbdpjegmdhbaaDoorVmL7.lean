/-
  The law of a program that sends once.
-/
import Derived.Test.YtghbdpjegmdhbaaDoorVmL2
import Derived.Test.YtghbdpjegmdhbaaDoorVmK
import Derived.Deep.AppendLies
import Derived.BigRegion
import Derived.Deep.RegionHeld3
import Derived.IntWalk
namespace Go.Proofs.YtghbdpjegmdhbaaDoor
open Go.ChangeShapes Go.WideShapes Go.ChangeAt Go.RowKit Go.Sort
set_option linter.unusedVariables false
set_option maxRecDepth 4000

/-- The law's world in its box: its links. -/
def BoxL (X : Nat) (w : World) (P : Value) (ov : Value) : Prop := w.heap[X]? = some (.cells #[P, .int .i64 0, ov, .int .u64 0] 26 (0, 0))
theorem BoxL.below {X : Nat} {w w' : World} {P ov : Value} (h : BoxL X w P ov) (hb : Below w.heap.size w w') : BoxL X w' P ov := (hb.block X (Array.getElem?_eq_some_iff.1 h).1).trans h
theorem BoxL.lt {X : Nat} {w : World} {P ov : Value} (h : BoxL X w P ov) : X < w.heap.size := (Array.getElem?_eq_some_iff.1 h).1
theorem BoxL.fz {X : Nat} {w : World} {P ov : Value} (h : BoxL X w P ov) (j : Nat) : w.frozen? ⟨X, j, none⟩ = false := by
  have h' : w.heap[X]? = _ := h
  simp [World.frozen?, h']
theorem BoxL.set2 {X : Nat} {w : World} {P ov : Value} (h : BoxL X w P ov) (u : Value) : BoxL X (w.setCell ⟨X, 2, none⟩ u) P u := by
  have := heap_set (j := 2) (u := u) h
  simp at this
  exact this
theorem BoxL.set0 {X : Nat} {w : World} {P ov : Value} (h : BoxL X w P ov) (u : Value) : BoxL X (w.setCell ⟨X, 0, none⟩ u) u ov := by
  have := heap_set (j := 0) (u := u) h
  simp at this
  exact this
theorem one_box (w : World) : BoxL w.heap.size (w.alloc (.cells #[.slice none 0 0, .int .i64 0, .slice none 0 0, .int .u64 0] 26)) (.slice none 0 0) (.slice none 0 0) := heap_alloc_new w _
/-- Where the links are laid: a prefix of the walk that all cases share. -/
def LinksAt (w wr : World) (bs : List Int) (k : Nat) : Prop := ∃ oa oc, BoxL w.heap.size wr (.slice none 0 0) (.slice oa k oc) ∧ wr.ownsRow (w.heap.size + 1) 49 4 (.slice oa k oc) k (flatL (lksOf bs k)) ∧ Below w.heap.size w wr
theorem links_start (w : World) (bs : List Int) : LinksAt w (w.alloc (.cells #[.slice none 0 0, .int .i64 0, .slice none 0 0, .int .u64 0] 26)) bs 0 :=
  ⟨none, 0, one_box w, World.ownsRow_nil _ _ _ _, (Below.refl _ _).alloc (Nat.le_refl _) _⟩
theorem tmod_fix (n : Int) (k : Nat) (hk : 0 < k) : (n.tmod (k : Int) + (k : Int)).tmod (k : Int) = n % (k : Int) := by
  have h1 : 0 ≤ n % (k : Int) := Int.emod_nonneg _ (by omega)
  have h2 : n % (k : Int) < (k : Int) := Int.emod_lt_of_pos _ (by omega)
  rw [Int.tmod_eq_emod (a := n) (b := (k : Int))]
  split
  · rw [show n % (k : Int) - ((0 : Nat) : Int) + (k : Int) = n % (k : Int) + (k : Int) by omega, Int.tmod_eq_emod_of_nonneg (by omega), Int.add_emod_right, Int.emod_emod_of_dvd _ (Int.dvd_refl _)]
  · rw [show n % (k : Int) - ((k : Int).natAbs : Int) + (k : Int) = n % (k : Int) by omega, Int.tmod_eq_emod_of_nonneg h1, Int.emod_emod_of_dvd _ (Int.dvd_refl _)]
theorem tmod_rng (n : Int) (k : Nat) (hk : 0 < k) : -(k : Int) < n.tmod (k : Int) ∧ n.tmod (k : Int) < (k : Int) := by
  have h1 : 0 ≤ n % (k : Int) := Int.emod_nonneg _ (by omega)
  have h2 : n % (k : Int) < (k : Int) := Int.emod_lt_of_pos _ (by omega)
  rw [Int.tmod_eq_emod (a := n) (b := (k : Int))]
  split
  · omega
  · have : n % (k : Int) ≠ 0 := by
      intro e
      rename_i hh
      exact hh (.inr (Int.dvd_of_emod_eq_zero e))
    omega
/-- Which way it goes. -/
theorem one_ways {n d v t : Int} {bs : List Int} {k : Nat} (hn : -2147483648 ≤ n ∧ n ≤ 2147483647) (hd : -2147483648 ≤ d ∧ d ≤ 2147483647) (hv : -2147483648 ≤ v ∧ v ≤ 2147483647) (hb : ∀ j, j < k → 0 ≤ bs.getD j 0 ∧ bs.getD j 0 ≤ 255) (hN : k ≤ 10) :
    (chkM (evT t) = 1 ∧ runW ⟨oneI n d v, 0, lksOf bs k, 0⟩ Sta.zero (evT t) = (⟨[0, 0, 0, 0, 0, 0, 0, 0], 0, 0⟩, [], 1)) ∨
    (chkM (evT t) = 0 ∧ k = 0 ∧ runW ⟨oneI n d v, 0, lksOf bs k, 0⟩ Sta.zero (evT t) = (⟨[0, 0, 0, 0, 0, 0, 0, 0], 0, 0⟩, [], 0)) ∨
    (chkM (evT t) = 0 ∧ 0 < k ∧ ∃ (kk : Nat) (look : Int), kk < k ∧ n % (k : Int) = (kk : Int) ∧ (lksOf bs k).getD kk default = ⟨0, (kk : Int), look, false⟩ ∧ d < look ∧ runW ⟨oneI n d v, 0, lksOf bs k, 0⟩ Sta.zero (evT t) = (⟨[0, 0, 0, 0, 0, 0, 0, 0], 0, 0⟩, [], 50)) ∨
    (chkM (evT t) = 0 ∧ 0 < k ∧ ∃ (kk : Nat) (look : Int), kk < k ∧ n % (k : Int) = (kk : Int) ∧ (lksOf bs k).getD kk default = ⟨0, (kk : Int), look, false⟩ ∧ ¬ d < look ∧ 4611686018427387903 - t < d ∧ runW ⟨oneI n d v, 0, lksOf bs k, 0⟩ Sta.zero (evT t) = (⟨[0, 0, 0, 0, 0, 0, 0, 0], 0, 0⟩, [], 10)) ∨
    (chkM (evT t) = 0 ∧ 0 < k ∧ ∃ (kk : Nat) (look : Int), kk < k ∧ n % (k : Int) = (kk : Int) ∧ (lksOf bs k).getD kk default = ⟨0, (kk : Int), look, false⟩ ∧ ¬ d < look ∧ ¬ 4611686018427387903 - t < d ∧ runW ⟨oneI n d v, 0, lksOf bs k, 0⟩ Sta.zero (evT t) = (⟨[0, 0, 0, 0, 0, 0, 0, 0], 0, 1⟩, [⟨(kk : Int), d, v⟩], 0)) := by
  have hc := one_check hn hd hv hb hN
  have hlen := lksOf_length bs k
  by_cases hm : chkM (evT t) = 0
  · by_cases h0 : k = 0
    · subst h0
      exact .inr (.inl ⟨hm, rfl, oneR_none hc hm rfl⟩)
    · have h1 : 0 ≤ n % (k : Int) := Int.emod_nonneg _ (by omega)
      have h2 : n % (k : Int) < (k : Int) := Int.emod_lt_of_pos _ (by omega)
      obtain ⟨kk, hkk⟩ : ∃ kk : Nat, n % (k : Int) = (kk : Int) := ⟨(n % (k : Int)).toNat, by omega⟩
      have hkl : kk < k := by omega
      have hg : (lksOf bs k).getD kk default = ⟨0, (kk : Int), 1 + bs.getD kk 0, false⟩ := lksOf_get bs k kk hkl
      have hidx : (lksOf bs k).getD (n % ((lksOf bs k).length : Int)).toNat default = ⟨0, (kk : Int), 1 + bs.getD kk 0, false⟩ := by
        rw [hlen, hkk, Int.toNat_natCast, hg]
      by_cases hl : d < 1 + bs.getD kk 0
      · exact .inr (.inr (.inl ⟨hm, by omega, kk, _, hkl, hkk, hg, hl, oneR_look hc hm (by omega) (by rw [hidx]; exact hl)⟩))
      · by_cases ht : 4611686018427387903 - t < d
        · exact .inr (.inr (.inr (.inl ⟨hm, by omega, kk, _, hkl, hkk, hg, hl, ht, oneR_time hc hm (by omega) (by rw [hidx]; exact hl) ht⟩)))
        · refine .inr (.inr (.inr (.inr ⟨hm, by omega, kk, _, hkl, hkk, hg, hl, ht, ?_⟩)))
          have := oneR_ok hc hm (by omega) (by rw [hidx]; exact hl) ht
          rw [hlen, hkk] at this
          exact this
  · refine .inl ⟨?_, oneR_bad hc hm⟩
    unfold chkM at *
    split at hm <;> simp_all
set_option maxHeartbeats 40000000 in
theorem one_walk {w : World} {eb : Addr} (hE : ErrIs w eb) (hT : ErrT w) {a : Option Addr} {len cap : Nat} {bs : List Int} (hB : Byts w a len cap bs) (hlr : len ≤ 140737488351232) (n d v t : Int) (hn : -2147483648 ≤ n ∧ n ≤ 2147483647) (hd : -2147483648 ≤ d ∧ d ≤ 2147483647) (hv : -2147483648 ≤ v ∧ v ≤ 2147483647) :
    Calls Tryd.prog 10 #[.slice a len cap, .int .i32 n, .int .i32 d, .int .i32 v, .int .i64 t] w fun e w' => e = .returned (.bool true) ∧ Below w.heap.size w w' := by
  obtain ⟨i0, hi, hz0, hz1, hz2⟩ := info_parts infoLk
  have mixed := mixed
  have hE' := Lib.hid hE
  have hT' := Lib.hid hT
  have hB' := Lib.hid hB
  clear hE hT hB
  go_enter Tryd.func10, Tryd.ntmps10
  go_wp2_with fail
  go_loopw [12] (fun i wr => ∃ k : Nat, k ≤ len ∧ k ≤ 10 ∧ i = .int .i64 k ∧ LinksAt w wr bs k) (fun i _ => 10 - (intOf i).toNat)
  case atStart => exact ⟨0, Nat.zero_le _, Nat.zero_le _, rfl, links_start w bs⟩
  case round =>
    obtain ⟨k, hk, hk10, rfl, oa, oc, hbx, hown, hbw⟩ := hrel
    by_cases hlt : k < len
    · by_cases hlt10 : k < 10
      · obtain ⟨b, off, rfl, hbw2, hm⟩ : ∃ b off, a = some ⟨b, off, none⟩ ∧ b < w.heap.size ∧ ∀ k, k < len → w.cell? ⟨b, off + k, none⟩ = some (.int .u8 (bs.getD k 0)) := by
          rcases hB'.out.2.2.2.2 with h0 | h1
          · omega
          · exact h1
        have q5 : wr.cell? ⟨b, off + k, none⟩ = some (.int .u8 (bs.getD k 0)) := by rw [hbw.cell hbw2]; exact hm k hlt
        have hrg : 0 ≤ bs.getD k 0 ∧ bs.getD k 0 ≤ 255 := hB'.out.2.2.2.1 _ (by
          have : k < bs.length := by rw [hB'.out.1]; exact hlt
          simp only [List.getD_eq_getElem?_getD, List.getElem?_eq_getElem this, Option.getD_some]
          exact List.getElem_mem this)
        have hsu := Lib.hid (lksOf_succ bs k)
        have hla : lkAt bs k = ⟨0, (k : Int), 1 + bs.getD k 0, false⟩ := rfl
        rw [hla] at hsu
        clear hm hla
        generalize bs.getD k 0 = x at q5 hrg hsu
        have q2 : wr.cell? ⟨w.heap.size, 2, none⟩ = some (.slice oa k oc) := row_cell hbx 2 rfl
        have hfz : wr.frozen? ⟨w.heap.size, 2, none⟩ = false := hbx.fz 2
        have hXlt := hbx.lt
        have hx0 : IntKind.i64.wrap x = x := IntWalk.i64_in _ (by omega)
        have hx1 : IntKind.i64.wrap (1 + x) = 1 + x := IntWalk.i64_in _ (by omega)
        have ag : Value.ownBlock (.slice oa k oc) ≠ some w.heap.size := by
          intro e
          have := (hown.lt _ e).1
          omega
        have hown' := Lib.hid hown
        have hbx' := Lib.hid hbx
        have hbw' := Lib.hid hbw
        clear hown hbx hbw
        go_upto_region 5 with (fail)
        go_region_law (first
          | (refine step_append_lies _ (by rfl) _ _ _ (by rfl) (w.heap.size + 1) 49 i0 _ 4 32 Tryd.underlying23 hi hz0 hz1 hz2 rfl (by omega) (.slice oa k oc) k (flatL (lksOf bs k)) (by rfl) ((hown'.out.alloc _).drew) ⟨wr.heap.size, 0, none⟩ 1 1 (flatL [⟨0, (k : Int), 1 + x, false⟩]) (by rfl) (by rfl) (World.news_of_block (cs := (Lk.cells ⟨0, (k : Int), 1 + x, false⟩)) (t := 49) (fr := (0, 0)) (heap_alloc_new wr _)) (by simp [Value.oneCell', flatL_one]) (by omega) (by unfold maxLen; omega) (by omega) (by simp; omega) (wr.heap.size + 1) (by simp) ?_; intro gg cap w4 hown4 hgrow hat hlt4; have q13 : w4.cell? ⟨w.heap.size, 2, none⟩ = some (.slice oa k oc) := (hgrow.cell_far _ (by simp; omega) (Ne.symm ag)).trans (Lib.cell?_alloc_some _ q2); have q13f : w4.frozen? ⟨w.heap.size, 2, none⟩ = false := (hgrow.frozen_far _ (by simp; omega) (Ne.symm ag)).trans (by rw [← hfz]; exact World.frozen?_alloc_past _ _ _ hXlt)))
        all_goals
          have hown5 : w4.ownsRow (w.heap.size + 1) 49 4 (.slice (some ⟨gg, 0, none⟩) (k + 1) cap) (k + 1) (flatL (lksOf bs (k + 1))) := by rw [hsu.out, flatL_append]; exact hown4
          have hrow := fun k hk => (hown'.out.lt k hk).1
          have hb4 := (((Below.refl (w.heap.size + 1) wr).alloc hXlt _).drew).grown hgrow (by simp; omega) hrow
          have hbx4 : BoxL w.heap.size w4 (.slice none 0 0) (.slice oa k oc) := (hb4.block w.heap.size (by omega)).trans hbx'.out
          have hQ : Hid (LinksAt w (w4.setCell ⟨w.heap.size, 2, none⟩ (.slice (some ⟨gg, 0, none⟩) (k + 1) cap)) bs (k + 1)) := ⟨some ⟨gg, 0, none⟩, cap, hbx4.set2 _, ownsRow_setCell_below hown5 (a := ⟨w.heap.size, 2, none⟩) (by simp) _, (hbw'.out.trans (hb4.mono (by omega))).setCell (p := ⟨w.heap.size, 2, none⟩) (Nat.le_refl _) _⟩
          clear hown4 hgrow hat hlt4 q13 q13f hown5 hb4 hbx4 ag hrow
          generalize w4.setCell ⟨w.heap.size, 2, none⟩ (.slice (some ⟨gg, 0, none⟩) (k + 1) cap) = W6 at hQ ⊢
          go_wp2
          go_roundw
          case rel => exact ⟨k + 1, by omega, by omega, by go_num, hQ.out⟩
          case measure => simp [intOf]; omega
      · have hbx' := Lib.hid hbx
        have hown' := Lib.hid hown
        have hbw' := Lib.hid hbw
        have q0 : ∀ o, (wr.alloc o).cell? ⟨w.heap.size, 0, none⟩ = some (.slice none 0 0) := fun o => row_cell (hbx.below ((Below.refl _ _).alloc (Nat.le_refl _) o)) 0 rfl
        have f0 : ∀ o, (wr.alloc o).frozen? ⟨w.heap.size, 0, none⟩ = false := fun o => (hbx.below ((Below.refl _ _).alloc (Nat.le_refl _) o)).fz 0
        have hXlt := hbx.lt
        have hways := one_ways (t := t) (bs := bs) (k := k) hn hd hv (fun j hj => hB'.out.2.2.2.1 _ (by
          have : j < bs.length := by rw [hB'.out.1]; omega
          simp only [List.getD_eq_getElem?_getD, List.getElem?_eq_getElem this, Option.getD_some]
          exact List.getElem_mem this)) hk10
        have hways' := Lib.hid hways
        clear hbx hown hbw hways
        go_upto_region 7 with (fail)
        have hbs := (hbx'.out.set0 (.slice (some ⟨wr.heap.size, 0, none⟩) 4 4))
        have ho7 := (ownsRow_setCell_below hown'.out (a := ⟨w.heap.size, 0, none⟩) (by simp) (.slice (some ⟨wr.heap.size, 0, none⟩) 4 4))
        have hb7 := hbw'.out.setCell (p := ⟨w.heap.size, 0, none⟩) (Nat.le_refl _) (.slice (some ⟨wr.heap.size, 0, none⟩) 4 4)
        have hz7 : (wr.setCell ⟨w.heap.size, 0, none⟩ (.slice (some ⟨wr.heap.size, 0, none⟩) 4 4)).heap.size = wr.heap.size := by simp
        generalize wr.setCell ⟨w.heap.size, 0, none⟩ (.slice (some ⟨wr.heap.size, 0, none⟩) 4 4) = W6 at *
        have hp7 := heap_alloc_new W6 (.cells #[.int .i64 1, .int .i64 8, .int .i64 n, .int .i64 0, .int .i64 1, .int .i64 9, .int .i64 d, .int .i64 0, .int .i64 1, .int .i64 10, .int .i64 v, .int .i64 0, .int .i64 12, .int .i64 8, .int .i64 9, .int .i64 10] 56)
        rw [hz7] at hp7
        have hbx7 := hbs.below ((Below.refl _ W6).alloc (Nat.le_refl _) (.cells #[.int .i64 1, .int .i64 8, .int .i64 n, .int .i64 0, .int .i64 1, .int .i64 9, .int .i64 d, .int .i64 0, .int .i64 1, .int .i64 10, .int .i64 v, .int .i64 0, .int .i64 12, .int .i64 8, .int .i64 9, .int .i64 10] 56))
        have hL7 := lks_of_own (ho7.alloc (.cells #[.int .i64 1, .int .i64 8, .int .i64 n, .int .i64 0, .int .i64 1, .int .i64 9, .int .i64 d, .int .i64 0, .int .i64 1, .int .i64 10, .int .i64 v, .int .i64 0, .int .i64 12, .int .i64 8, .int .i64 9, .int .i64 10] 56))
        have hB7 := hb7.alloc hb7.size (.cells #[.int .i64 1, .int .i64 8, .int .i64 n, .int .i64 0, .int .i64 1, .int .i64 9, .int .i64 d, .int .i64 0, .int .i64 1, .int .i64 10, .int .i64 v, .int .i64 0, .int .i64 12, .int .i64 8, .int .i64 9, .int .i64 10] 56)
        generalize W6.alloc (.cells #[.int .i64 1, .int .i64 8, .int .i64 n, .int .i64 0, .int .i64 1, .int .i64 9, .int .i64 d, .int .i64 0, .int .i64 1, .int .i64 10, .int .i64 v, .int .i64 0, .int .i64 12, .int .i64 8, .int .i64 9, .int .i64 10] 56) = W7 at *
        have hI7 : Inss W7 (some ⟨wr.heap.size, 0, none⟩) 4 4 (oneI n d v) := inss_of_block hp7 rfl (by unfold maxLen; omega) rfl (one_fits hn hd hv)
        have hW7 := Lib.hid (show Wds W7 ⟨some ⟨wr.heap.size, 0, none⟩, 4, 4, oa, k, oc⟩ ⟨oneI n d v, 0, lksOf bs k, 0⟩ from ⟨hI7, hL7, by show 0 < _; omega, by show (Lit.int .i64 0).wf = true; decide⟩)
        have hbx7' := Lib.hid hbx7
        have hB7' := Lib.hid hB7
        have bq := fun o => row4 (hbx7.below ((Below.refl _ W7).alloc (Nat.le_refl _) o))
        simp only [forall_and] at bq
        obtain ⟨b0, b1, b2, b3⟩ := bq
        have hXl7 := hbx7.lt
        clear hbs ho7 hb7 hz7 hp7 hbx7 hL7 hB7 hI7 q0 f0 hXlt
        generalize (some ⟨wr.heap.size, 0, none⟩ : Option Addr) = pa at *
        rcases hways'.out with hw | hw | hw | hw | hw
        · obtain ⟨hm, hr⟩ := hw
          have hc1 := fun o => vmRun_lit (hW7.out.below ((Below.refl _ W7).alloc (Nat.le_refl _) o)) (hE'.out.below (hB7'.out.alloc hB7'.out.size o)) (hT'.out.below (hB7'.out.alloc hB7'.out.size o)) (s := Sta.zero) (ev := evT t) rfl zero_in (by show (-9223372036854775808 : Int) ≤ 0 ∧ (0 : Int) ≤ 9223372036854775807; omega) hr
          have hck := fun w' => eCheck_any (evT t) w'
          rw [hm] at hck
          simp only [Wv.val, M.val, evT, Sta.val, Sta.cells, Sta.zero, List.map_cons, List.map_nil, List.cons_append, List.nil_append] at hc1 hck
          clear hm hr
          go_wp2_with fail
          refine (hc1 _).mono ?_
          rintro e w8 ⟨a8, cap8, rfl, hq⟩
          have hb8 := hq.out.2
          have hm8 := (hb8.block W7.heap.size (by simp)).trans (heap_alloc_new W7 _)
          have hbx8 := (hbx7'.out.below ((Below.refl _ W7).alloc (Nat.le_refl _) _)).below hb8
          have hW8 := Lib.hid ((hW7.out.below ((Below.refl _ W7).alloc (Nat.le_refl _) _)).below hb8)
          have hB8 := Lib.hid ((hB7'.out.alloc hB7'.out.size _).trans (hb8.mono (hB7'.out.alloc hB7'.out.size _).size))
          have hO8 := Lib.hid hq.out.1
          have hbx8' := Lib.hid hbx8
          have sz8 : W7.heap.size < w8.heap.size := Nat.lt_of_lt_of_le (by simp) hb8.size
          have mq := fun o => row7 ((Below.block ((Below.refl _ w8).alloc (Nat.le_refl _) o) W7.heap.size sz8).trans hm8)
          simp only [forall_and] at mq
          obtain ⟨m0, m1, m2, m3, m4, m5, m6⟩ := mq
          clear hc1 hq hb8 hm8 hbx8 b0 b1 b2 b3
          go_wp2_with fail
          refine (hck _).mono ?_
          rintro e w9 ⟨rfl, hr9⟩
          have hal := fun o => (Below.refl w8.heap.size w8).alloc (Nat.le_refl _) o
          have hbx9 := (hbx8'.out.below (hal _)).below hr9.below
          have hW9 := (hW8.out.below (hal _)).below hr9.below
          have hO9 := Lib.hid ((hO8.out.below (hal _)).below hr9.below)
          have hB9 := Lib.hid ((hB8.out.alloc hB8.out.size _).trans (hr9.below.mono (hB8.out.alloc hB8.out.size _).size))
          have hst := (hr9.below.block w8.heap.size (by simp)).trans (heap_alloc_new w8 _)
          obtain ⟨s0, s1, s2, s3, s4, s5, s6, s7, s8, s9⟩ := row10 hst
          obtain ⟨b0, b1, b2, b3⟩ := row4 hbx9
          clear hck hr9 hal hbx9 hst m0 m1 m2 m3 m4 m5 m6
          clear hW9
          go_wp2
          go_ret
          exact ⟨rfl, hB9.out⟩
        · obtain ⟨hm, h0, hr⟩ := hw
          exfalso
          omega
        · obtain ⟨hm, h0, kk, look, hkl, hkk0, hlk0, hlook, hr⟩ := hw
          have hkk' := Lib.hid hkk0
          have hlk' := Lib.hid hlk0
          clear hkk0 hlk0
          have hc1 := fun o => vmRun_lit (hW7.out.below ((Below.refl _ W7).alloc (Nat.le_refl _) o)) (hE'.out.below (hB7'.out.alloc hB7'.out.size o)) (hT'.out.below (hB7'.out.alloc hB7'.out.size o)) (s := Sta.zero) (ev := evT t) rfl zero_in (by show (-9223372036854775808 : Int) ≤ 0 ∧ (0 : Int) ≤ 9223372036854775807; omega) hr
          have hck := fun w' => eCheck_any (evT t) w'
          rw [hm] at hck
          simp only [Wv.val, M.val, evT, Sta.val, Sta.cells, Sta.zero, List.map_cons, List.map_nil, List.cons_append, List.nil_append] at hc1 hck
          clear hm hr
          go_wp2_with fail
          refine (hc1 _).mono ?_
          rintro e w8 ⟨a8, cap8, rfl, hq⟩
          have hb8 := hq.out.2
          have hm8 := (hb8.block W7.heap.size (by simp)).trans (heap_alloc_new W7 _)
          have hbx8 := (hbx7'.out.below ((Below.refl _ W7).alloc (Nat.le_refl _) _)).below hb8
          have hW8 := Lib.hid ((hW7.out.below ((Below.refl _ W7).alloc (Nat.le_refl _) _)).below hb8)
          have hB8 := Lib.hid ((hB7'.out.alloc hB7'.out.size _).trans (hb8.mono (hB7'.out.alloc hB7'.out.size _).size))
          have hO8 := Lib.hid hq.out.1
          have hbx8' := Lib.hid hbx8
          have sz8 : W7.heap.size < w8.heap.size := Nat.lt_of_lt_of_le (by simp) hb8.size
          have mq := fun o => row7 ((Below.block ((Below.refl _ w8).alloc (Nat.le_refl _) o) W7.heap.size sz8).trans hm8)
          simp only [forall_and] at mq
          obtain ⟨m0, m1, m2, m3, m4, m5, m6⟩ := mq
          clear hc1 hq hb8 hm8 hbx8 b0 b1 b2 b3
          go_wp2_with fail
          refine (hck _).mono ?_
          rintro e w9 ⟨rfl, hr9⟩
          have hal := fun o => (Below.refl w8.heap.size w8).alloc (Nat.le_refl _) o
          have hbx9 := (hbx8'.out.below (hal _)).below hr9.below
          have hW9 := (hW8.out.below (hal _)).below hr9.below
          have hO9 := Lib.hid ((hO8.out.below (hal _)).below hr9.below)
          have hB9 := Lib.hid ((hB8.out.alloc hB8.out.size _).trans (hr9.below.mono (hB8.out.alloc hB8.out.size _).size))
          have hst := (hr9.below.block w8.heap.size (by simp)).trans (heap_alloc_new w8 _)
          obtain ⟨s0, s1, s2, s3, s4, s5, s6, s7, s8, s9⟩ := row10 hst
          obtain ⟨b0, b1, b2, b3⟩ := row4 hbx9
          clear hck hr9 hal hbx9 hst m0 m1 m2 m3 m4 m5 m6
          obtain ⟨lb, lo, hla, hlm⟩ : ∃ lb lo, oa = some ⟨lb, lo, none⟩ ∧ ∀ j, j < k → LkAt w9 lb (lo + j * 4) ((lksOf bs k).getD j default) := by
            rcases hW9.2.1.2.2.2 with g | g
            · exfalso; simp only at g; omega
            · exact g
          have hlx := hlm kk hkl
          rw [hlk'.out] at hlx
          obtain ⟨-, -, -, l2, -⟩ := hlx
          subst hla
          have hfix := tmod_fix n k h0
          have hrng := tmod_rng n k h0
          rw [hkk'.out] at hfix
          have hk0 : ((k : Int) == 0) = false := by simp; omega
          generalize hrr : n.tmod (k : Int) = rr at *
          clear hlm hW9
          go_wp2
          go_ret
          exact ⟨rfl, hB9.out⟩
        · obtain ⟨hm, h0, kk, look, hkl, hkk0, hlk0, hlook, ht, hr⟩ := hw
          have htr : 0 ≤ t ∧ t ≤ 4611686018427387903 := chkM_time hm
          have hkk' := Lib.hid hkk0
          have hlk' := Lib.hid hlk0
          clear hkk0 hlk0
          have hc1 := fun o => vmRun_lit (hW7.out.below ((Below.refl _ W7).alloc (Nat.le_refl _) o)) (hE'.out.below (hB7'.out.alloc hB7'.out.size o)) (hT'.out.below (hB7'.out.alloc hB7'.out.size o)) (s := Sta.zero) (ev := evT t) rfl zero_in (by show (-9223372036854775808 : Int) ≤ 0 ∧ (0 : Int) ≤ 9223372036854775807; omega) hr
          have hck := fun w' => eCheck_any (evT t) w'
          rw [hm] at hck
          simp only [Wv.val, M.val, evT, Sta.val, Sta.cells, Sta.zero, List.map_cons, List.map_nil, List.cons_append, List.nil_append] at hc1 hck
          clear hm hr
          go_wp2_with fail
          refine (hc1 _).mono ?_
          rintro e w8 ⟨a8, cap8, rfl, hq⟩
          have hb8 := hq.out.2
          have hm8 := (hb8.block W7.heap.size (by simp)).trans (heap_alloc_new W7 _)
          have hbx8 := (hbx7'.out.below ((Below.refl _ W7).alloc (Nat.le_refl _) _)).below hb8
          have hW8 := Lib.hid ((hW7.out.below ((Below.refl _ W7).alloc (Nat.le_refl _) _)).below hb8)
          have hB8 := Lib.hid ((hB7'.out.alloc hB7'.out.size _).trans (hb8.mono (hB7'.out.alloc hB7'.out.size _).size))
          have hO8 := Lib.hid hq.out.1
          have hbx8' := Lib.hid hbx8
          have sz8 : W7.heap.size < w8.heap.size := Nat.lt_of_lt_of_le (by simp) hb8.size
          have mq := fun o => row7 ((Below.block ((Below.refl _ w8).alloc (Nat.le_refl _) o) W7.heap.size sz8).trans hm8)
          simp only [forall_and] at mq
          obtain ⟨m0, m1, m2, m3, m4, m5, m6⟩ := mq
          clear hc1 hq hb8 hm8 hbx8 b0 b1 b2 b3
          go_wp2_with fail
          refine (hck _).mono ?_
          rintro e w9 ⟨rfl, hr9⟩
          have hal := fun o => (Below.refl w8.heap.size w8).alloc (Nat.le_refl _) o
          have hbx9 := (hbx8'.out.below (hal _)).below hr9.below
          have hW9 := (hW8.out.below (hal _)).below hr9.below
          have hO9 := Lib.hid ((hO8.out.below (hal _)).below hr9.below)
          have hB9 := Lib.hid ((hB8.out.alloc hB8.out.size _).trans (hr9.below.mono (hB8.out.alloc hB8.out.size _).size))
          have hst := (hr9.below.block w8.heap.size (by simp)).trans (heap_alloc_new w8 _)
          obtain ⟨s0, s1, s2, s3, s4, s5, s6, s7, s8, s9⟩ := row10 hst
          obtain ⟨b0, b1, b2, b3⟩ := row4 hbx9
          clear hck hr9 hal hbx9 hst m0 m1 m2 m3 m4 m5 m6
          obtain ⟨lb, lo, hla, hlm⟩ : ∃ lb lo, oa = some ⟨lb, lo, none⟩ ∧ ∀ j, j < k → LkAt w9 lb (lo + j * 4) ((lksOf bs k).getD j default) := by
            rcases hW9.2.1.2.2.2 with g | g
            · exfalso; simp only at g; omega
            · exact g
          have hlx := hlm kk hkl
          rw [hlk'.out] at hlx
          obtain ⟨-, -, -, l2, -⟩ := hlx
          subst hla
          have hfix := tmod_fix n k h0
          have hrng := tmod_rng n k h0
          rw [hkk'.out] at hfix
          have hk0 : ((k : Int) == 0) = false := by simp; omega
          generalize hrr : n.tmod (k : Int) = rr at *
          clear hlm hW9
          go_wp2
          go_ret
          exact ⟨rfl, hB9.out⟩
        · obtain ⟨hm, h0, kk, look, hkl, hkk0, hlk0, hlook, ht, hr⟩ := hw
          have htr : 0 ≤ t ∧ t ≤ 4611686018427387903 := chkM_time hm
          have hkk' := Lib.hid hkk0
          have hlk' := Lib.hid hlk0
          clear hkk0 hlk0
          have hc1 := fun o => vmRun_lit (hW7.out.below ((Below.refl _ W7).alloc (Nat.le_refl _) o)) (hE'.out.below (hB7'.out.alloc hB7'.out.size o)) (hT'.out.below (hB7'.out.alloc hB7'.out.size o)) (s := Sta.zero) (ev := evT t) rfl zero_in (by show (-9223372036854775808 : Int) ≤ 0 ∧ (0 : Int) ≤ 9223372036854775807; omega) hr
          have hck := fun w' => eCheck_any (evT t) w'
          rw [hm] at hck
          simp only [Wv.val, M.val, evT, Sta.val, Sta.cells, Sta.zero, List.map_cons, List.map_nil, List.cons_append, List.nil_append] at hc1 hck
          clear hm hr
          go_wp2_with fail
          refine (hc1 _).mono ?_
          rintro e w8 ⟨a8, cap8, rfl, hq⟩
          have hb8 := hq.out.2
          have hm8 := (hb8.block W7.heap.size (by simp)).trans (heap_alloc_new W7 _)
          have hbx8 := (hbx7'.out.below ((Below.refl _ W7).alloc (Nat.le_refl _) _)).below hb8
          have hW8 := Lib.hid ((hW7.out.below ((Below.refl _ W7).alloc (Nat.le_refl _) _)).below hb8)
          have hB8 := Lib.hid ((hB7'.out.alloc hB7'.out.size _).trans (hb8.mono (hB7'.out.alloc hB7'.out.size _).size))
          have hO8 := Lib.hid hq.out.1
          have hbx8' := Lib.hid hbx8
          have sz8 : W7.heap.size < w8.heap.size := Nat.lt_of_lt_of_le (by simp) hb8.size
          have mq := fun o => row7 ((Below.block ((Below.refl _ w8).alloc (Nat.le_refl _) o) W7.heap.size sz8).trans hm8)
          simp only [forall_and] at mq
          obtain ⟨m0, m1, m2, m3, m4, m5, m6⟩ := mq
          clear hc1 hq hb8 hm8 hbx8 b0 b1 b2 b3
          go_wp2_with fail
          refine (hck _).mono ?_
          rintro e w9 ⟨rfl, hr9⟩
          have hal := fun o => (Below.refl w8.heap.size w8).alloc (Nat.le_refl _) o
          have hbx9 := (hbx8'.out.below (hal _)).below hr9.below
          have hW9 := (hW8.out.below (hal _)).below hr9.below
          have hO9 := Lib.hid ((hO8.out.below (hal _)).below hr9.below)
          have hB9 := Lib.hid ((hB8.out.alloc hB8.out.size _).trans (hr9.below.mono (hB8.out.alloc hB8.out.size _).size))
          have hst := (hr9.below.block w8.heap.size (by simp)).trans (heap_alloc_new w8 _)
          obtain ⟨s0, s1, s2, s3, s4, s5, s6, s7, s8, s9⟩ := row10 hst
          obtain ⟨b0, b1, b2, b3⟩ := row4 hbx9
          clear hck hr9 hal hbx9 hst m0 m1 m2 m3 m4 m5 m6
          obtain ⟨lb, lo, hla, hlm⟩ : ∃ lb lo, oa = some ⟨lb, lo, none⟩ ∧ ∀ j, j < k → LkAt w9 lb (lo + j * 4) ((lksOf bs k).getD j default) := by
            rcases hW9.2.1.2.2.2 with g | g
            · exfalso; simp only at g; omega
            · exact g
          have hlx := hlm kk hkl
          rw [hlk'.out] at hlx
          obtain ⟨-, -, -, l2, -⟩ := hlx
          subst hla
          have hfix := tmod_fix n k h0
          have hrng := tmod_rng n k h0
          rw [hkk'.out] at hfix
          have hk0 : ((k : Int) == 0) = false := by simp; omega
          generalize hrr : n.tmod (k : Int) = rr at *
          clear hlm hW9
          have heo := fun w => eqOt_refl (kk : Int) d v w
          obtain ⟨ob, oo, hoa, hom⟩ : ∃ ob oo, a8 = some ⟨ob, oo, none⟩ ∧ ∀ j, j < 1 → OtAt w9 ob (oo + j * 3) (([⟨(kk : Int), d, v⟩] : List Ot).getD j default) := by
            rcases hO9.out.2.2.2 with g | g
            · exfalso; simp at g
            · exact g
          have hox := hom 0 (by omega)
          obtain ⟨-, o0, o1, o2⟩ := hox
          subst hoa
          simp only [List.getD_cons_zero, Nat.zero_mul, Nat.add_zero] at o0 o1 o2
          clear hom
          go_wp2
          go_ret
          exact ⟨rfl, hB9.out⟩
    · have hbx' := Lib.hid hbx
      have hown' := Lib.hid hown
      have hbw' := Lib.hid hbw
      have q0 : ∀ o, (wr.alloc o).cell? ⟨w.heap.size, 0, none⟩ = some (.slice none 0 0) := fun o => row_cell (hbx.below ((Below.refl _ _).alloc (Nat.le_refl _) o)) 0 rfl
      have f0 : ∀ o, (wr.alloc o).frozen? ⟨w.heap.size, 0, none⟩ = false := fun o => (hbx.below ((Below.refl _ _).alloc (Nat.le_refl _) o)).fz 0
      have hXlt := hbx.lt
      have hways := one_ways (t := t) (bs := bs) (k := k) hn hd hv (fun j hj => hB'.out.2.2.2.1 _ (by
        have : j < bs.length := by rw [hB'.out.1]; omega
        simp only [List.getD_eq_getElem?_getD, List.getElem?_eq_getElem this, Option.getD_some]
        exact List.getElem_mem this)) hk10
      have hways' := Lib.hid hways
      clear hbx hown hbw hways
      go_upto_region 7 with (fail)
      have hbs := (hbx'.out.set0 (.slice (some ⟨wr.heap.size, 0, none⟩) 4 4))
      have ho7 := (ownsRow_setCell_below hown'.out (a := ⟨w.heap.size, 0, none⟩) (by simp) (.slice (some ⟨wr.heap.size, 0, none⟩) 4 4))
      have hb7 := hbw'.out.setCell (p := ⟨w.heap.size, 0, none⟩) (Nat.le_refl _) (.slice (some ⟨wr.heap.size, 0, none⟩) 4 4)
      have hz7 : (wr.setCell ⟨w.heap.size, 0, none⟩ (.slice (some ⟨wr.heap.size, 0, none⟩) 4 4)).heap.size = wr.heap.size := by simp
      generalize wr.setCell ⟨w.heap.size, 0, none⟩ (.slice (some ⟨wr.heap.size, 0, none⟩) 4 4) = W6 at *
      have hp7 := heap_alloc_new W6 (.cells #[.int .i64 1, .int .i64 8, .int .i64 n, .int .i64 0, .int .i64 1, .int .i64 9, .int .i64 d, .int .i64 0, .int .i64 1, .int .i64 10, .int .i64 v, .int .i64 0, .int .i64 12, .int .i64 8, .int .i64 9, .int .i64 10] 56)
      rw [hz7] at hp7
      have hbx7 := hbs.below ((Below.refl _ W6).alloc (Nat.le_refl _) (.cells #[.int .i64 1, .int .i64 8, .int .i64 n, .int .i64 0, .int .i64 1, .int .i64 9, .int .i64 d, .int .i64 0, .int .i64 1, .int .i64 10, .int .i64 v, .int .i64 0, .int .i64 12, .int .i64 8, .int .i64 9, .int .i64 10] 56))
      have hL7 := lks_of_own (ho7.alloc (.cells #[.int .i64 1, .int .i64 8, .int .i64 n, .int .i64 0, .int .i64 1, .int .i64 9, .int .i64 d, .int .i64 0, .int .i64 1, .int .i64 10, .int .i64 v, .int .i64 0, .int .i64 12, .int .i64 8, .int .i64 9, .int .i64 10] 56))
      have hB7 := hb7.alloc hb7.size (.cells #[.int .i64 1, .int .i64 8, .int .i64 n, .int .i64 0, .int .i64 1, .int .i64 9, .int .i64 d, .int .i64 0, .int .i64 1, .int .i64 10, .int .i64 v, .int .i64 0, .int .i64 12, .int .i64 8, .int .i64 9, .int .i64 10] 56)
      generalize W6.alloc (.cells #[.int .i64 1, .int .i64 8, .int .i64 n, .int .i64 0, .int .i64 1, .int .i64 9, .int .i64 d, .int .i64 0, .int .i64 1, .int .i64 10, .int .i64 v, .int .i64 0, .int .i64 12, .int .i64 8, .int .i64 9, .int .i64 10] 56) = W7 at *
      have hI7 : Inss W7 (some ⟨wr.heap.size, 0, none⟩) 4 4 (oneI n d v) := inss_of_block hp7 rfl (by unfold maxLen; omega) rfl (one_fits hn hd hv)
      have hW7 := Lib.hid (show Wds W7 ⟨some ⟨wr.heap.size, 0, none⟩, 4, 4, oa, k, oc⟩ ⟨oneI n d v, 0, lksOf bs k, 0⟩ from ⟨hI7, hL7, by show 0 < _; omega, by show (Lit.int .i64 0).wf = true; decide⟩)
      have hbx7' := Lib.hid hbx7
      have hB7' := Lib.hid hB7
      have bq := fun o => row4 (hbx7.below ((Below.refl _ W7).alloc (Nat.le_refl _) o))
      simp only [forall_and] at bq
      obtain ⟨b0, b1, b2, b3⟩ := bq
      have hXl7 := hbx7.lt
      clear hbs ho7 hb7 hz7 hp7 hbx7 hL7 hB7 hI7 q0 f0 hXlt
      generalize (some ⟨wr.heap.size, 0, none⟩ : Option Addr) = pa at *
      rcases hways'.out with hw | hw | hw | hw | hw
      · obtain ⟨hm, hr⟩ := hw
        have hc1 := fun o => vmRun_lit (hW7.out.below ((Below.refl _ W7).alloc (Nat.le_refl _) o)) (hE'.out.below (hB7'.out.alloc hB7'.out.size o)) (hT'.out.below (hB7'.out.alloc hB7'.out.size o)) (s := Sta.zero) (ev := evT t) rfl zero_in (by show (-9223372036854775808 : Int) ≤ 0 ∧ (0 : Int) ≤ 9223372036854775807; omega) hr
        have hck := fun w' => eCheck_any (evT t) w'
        rw [hm] at hck
        simp only [Wv.val, M.val, evT, Sta.val, Sta.cells, Sta.zero, List.map_cons, List.map_nil, List.cons_append, List.nil_append] at hc1 hck
        clear hm hr
        go_wp2_with fail
        refine (hc1 _).mono ?_
        rintro e w8 ⟨a8, cap8, rfl, hq⟩
        have hb8 := hq.out.2
        have hm8 := (hb8.block W7.heap.size (by simp)).trans (heap_alloc_new W7 _)
        have hbx8 := (hbx7'.out.below ((Below.refl _ W7).alloc (Nat.le_refl _) _)).below hb8
        have hW8 := Lib.hid ((hW7.out.below ((Below.refl _ W7).alloc (Nat.le_refl _) _)).below hb8)
        have hB8 := Lib.hid ((hB7'.out.alloc hB7'.out.size _).trans (hb8.mono (hB7'.out.alloc hB7'.out.size _).size))
        have hO8 := Lib.hid hq.out.1
        have hbx8' := Lib.hid hbx8
        have sz8 : W7.heap.size < w8.heap.size := Nat.lt_of_lt_of_le (by simp) hb8.size
        have mq := fun o => row7 ((Below.block ((Below.refl _ w8).alloc (Nat.le_refl _) o) W7.heap.size sz8).trans hm8)
        simp only [forall_and] at mq
        obtain ⟨m0, m1, m2, m3, m4, m5, m6⟩ := mq
        clear hc1 hq hb8 hm8 hbx8 b0 b1 b2 b3
        go_wp2_with fail
        refine (hck _).mono ?_
        rintro e w9 ⟨rfl, hr9⟩
        have hal := fun o => (Below.refl w8.heap.size w8).alloc (Nat.le_refl _) o
        have hbx9 := (hbx8'.out.below (hal _)).below hr9.below
        have hW9 := (hW8.out.below (hal _)).below hr9.below
        have hO9 := Lib.hid ((hO8.out.below (hal _)).below hr9.below)
        have hB9 := Lib.hid ((hB8.out.alloc hB8.out.size _).trans (hr9.below.mono (hB8.out.alloc hB8.out.size _).size))
        have hst := (hr9.below.block w8.heap.size (by simp)).trans (heap_alloc_new w8 _)
        obtain ⟨s0, s1, s2, s3, s4, s5, s6, s7, s8, s9⟩ := row10 hst
        obtain ⟨b0, b1, b2, b3⟩ := row4 hbx9
        clear hck hr9 hal hbx9 hst m0 m1 m2 m3 m4 m5 m6
        clear hW9
        go_wp2
        go_ret
        exact ⟨rfl, hB9.out⟩
      · obtain ⟨hm, h0, hr⟩ := hw
        subst h0
        have hc1 := fun o => vmRun_lit (hW7.out.below ((Below.refl _ W7).alloc (Nat.le_refl _) o)) (hE'.out.below (hB7'.out.alloc hB7'.out.size o)) (hT'.out.below (hB7'.out.alloc hB7'.out.size o)) (s := Sta.zero) (ev := evT t) rfl zero_in (by show (-9223372036854775808 : Int) ≤ 0 ∧ (0 : Int) ≤ 9223372036854775807; omega) hr
        have hck := fun w' => eCheck_any (evT t) w'
        rw [hm] at hck
        simp only [Wv.val, M.val, evT, Sta.val, Sta.cells, Sta.zero, List.map_cons, List.map_nil, List.cons_append, List.nil_append] at hc1 hck
        clear hm hr
        go_wp2_with fail
        refine (hc1 _).mono ?_
        rintro e w8 ⟨a8, cap8, rfl, hq⟩
        have hb8 := hq.out.2
        have hm8 := (hb8.block W7.heap.size (by simp)).trans (heap_alloc_new W7 _)
        have hbx8 := (hbx7'.out.below ((Below.refl _ W7).alloc (Nat.le_refl _) _)).below hb8
        have hW8 := Lib.hid ((hW7.out.below ((Below.refl _ W7).alloc (Nat.le_refl _) _)).below hb8)
        have hB8 := Lib.hid ((hB7'.out.alloc hB7'.out.size _).trans (hb8.mono (hB7'.out.alloc hB7'.out.size _).size))
        have hO8 := Lib.hid hq.out.1
        have hbx8' := Lib.hid hbx8
        have sz8 : W7.heap.size < w8.heap.size := Nat.lt_of_lt_of_le (by simp) hb8.size
        have mq := fun o => row7 ((Below.block ((Below.refl _ w8).alloc (Nat.le_refl _) o) W7.heap.size sz8).trans hm8)
        simp only [forall_and] at mq
        obtain ⟨m0, m1, m2, m3, m4, m5, m6⟩ := mq
        clear hc1 hq hb8 hm8 hbx8 b0 b1 b2 b3
        go_wp2_with fail
        refine (hck _).mono ?_
        rintro e w9 ⟨rfl, hr9⟩
        have hal := fun o => (Below.refl w8.heap.size w8).alloc (Nat.le_refl _) o
        have hbx9 := (hbx8'.out.below (hal _)).below hr9.below
        have hW9 := (hW8.out.below (hal _)).below hr9.below
        have hO9 := Lib.hid ((hO8.out.below (hal _)).below hr9.below)
        have hB9 := Lib.hid ((hB8.out.alloc hB8.out.size _).trans (hr9.below.mono (hB8.out.alloc hB8.out.size _).size))
        have hst := (hr9.below.block w8.heap.size (by simp)).trans (heap_alloc_new w8 _)
        obtain ⟨s0, s1, s2, s3, s4, s5, s6, s7, s8, s9⟩ := row10 hst
        obtain ⟨b0, b1, b2, b3⟩ := row4 hbx9
        clear hck hr9 hal hbx9 hst m0 m1 m2 m3 m4 m5 m6
        clear hW9
        go_wp2_with fail
        refine (awake5_any (hE'.out.below hB9.out) (hT'.out.below hB9.out)).mono ?_
        rintro e w10 ⟨rfl, hb10⟩
        have hB10 := Lib.hid (hB9.out.trans (hb10.mono hB9.out.size))
        clear hb10
        go_wp2
        go_ret
        exact ⟨rfl, hB10.out⟩
      · obtain ⟨hm, h0, kk, look, hkl, hkk0, hlk0, hlook, hr⟩ := hw
        have hkk' := Lib.hid hkk0
        have hlk' := Lib.hid hlk0
        clear hkk0 hlk0
        have hc1 := fun o => vmRun_lit (hW7.out.below ((Below.refl _ W7).alloc (Nat.le_refl _) o)) (hE'.out.below (hB7'.out.alloc hB7'.out.size o)) (hT'.out.below (hB7'.out.alloc hB7'.out.size o)) (s := Sta.zero) (ev := evT t) rfl zero_in (by show (-9223372036854775808 : Int) ≤ 0 ∧ (0 : Int) ≤ 9223372036854775807; omega) hr
        have hck := fun w' => eCheck_any (evT t) w'
        rw [hm] at hck
        simp only [Wv.val, M.val, evT, Sta.val, Sta.cells, Sta.zero, List.map_cons, List.map_nil, List.cons_append, List.nil_append] at hc1 hck
        clear hm hr
        go_wp2_with fail
        refine (hc1 _).mono ?_
        rintro e w8 ⟨a8, cap8, rfl, hq⟩
        have hb8 := hq.out.2
        have hm8 := (hb8.block W7.heap.size (by simp)).trans (heap_alloc_new W7 _)
        have hbx8 := (hbx7'.out.below ((Below.refl _ W7).alloc (Nat.le_refl _) _)).below hb8
        have hW8 := Lib.hid ((hW7.out.below ((Below.refl _ W7).alloc (Nat.le_refl _) _)).below hb8)
        have hB8 := Lib.hid ((hB7'.out.alloc hB7'.out.size _).trans (hb8.mono (hB7'.out.alloc hB7'.out.size _).size))
        have hO8 := Lib.hid hq.out.1
        have hbx8' := Lib.hid hbx8
        have sz8 : W7.heap.size < w8.heap.size := Nat.lt_of_lt_of_le (by simp) hb8.size
        have mq := fun o => row7 ((Below.block ((Below.refl _ w8).alloc (Nat.le_refl _) o) W7.heap.size sz8).trans hm8)
        simp only [forall_and] at mq
        obtain ⟨m0, m1, m2, m3, m4, m5, m6⟩ := mq
        clear hc1 hq hb8 hm8 hbx8 b0 b1 b2 b3
        go_wp2_with fail
        refine (hck _).mono ?_
        rintro e w9 ⟨rfl, hr9⟩
        have hal := fun o => (Below.refl w8.heap.size w8).alloc (Nat.le_refl _) o
        have hbx9 := (hbx8'.out.below (hal _)).below hr9.below
        have hW9 := (hW8.out.below (hal _)).below hr9.below
        have hO9 := Lib.hid ((hO8.out.below (hal _)).below hr9.below)
        have hB9 := Lib.hid ((hB8.out.alloc hB8.out.size _).trans (hr9.below.mono (hB8.out.alloc hB8.out.size _).size))
        have hst := (hr9.below.block w8.heap.size (by simp)).trans (heap_alloc_new w8 _)
        obtain ⟨s0, s1, s2, s3, s4, s5, s6, s7, s8, s9⟩ := row10 hst
        obtain ⟨b0, b1, b2, b3⟩ := row4 hbx9
        clear hck hr9 hal hbx9 hst m0 m1 m2 m3 m4 m5 m6
        obtain ⟨lb, lo, hla, hlm⟩ : ∃ lb lo, oa = some ⟨lb, lo, none⟩ ∧ ∀ j, j < k → LkAt w9 lb (lo + j * 4) ((lksOf bs k).getD j default) := by
          rcases hW9.2.1.2.2.2 with g | g
          · exfalso; simp only at g; omega
          · exact g
        have hlx := hlm kk hkl
        rw [hlk'.out] at hlx
        obtain ⟨-, -, -, l2, -⟩ := hlx
        subst hla
        have hfix := tmod_fix n k h0
        have hrng := tmod_rng n k h0
        rw [hkk'.out] at hfix
        have hk0 : ((k : Int) == 0) = false := by simp; omega
        generalize hrr : n.tmod (k : Int) = rr at *
        clear hlm hW9
        go_wp2
        go_ret
        exact ⟨rfl, hB9.out⟩
      · obtain ⟨hm, h0, kk, look, hkl, hkk0, hlk0, hlook, ht, hr⟩ := hw
        have htr : 0 ≤ t ∧ t ≤ 4611686018427387903 := chkM_time hm
        have hkk' := Lib.hid hkk0
        have hlk' := Lib.hid hlk0
        clear hkk0 hlk0
        have hc1 := fun o => vmRun_lit (hW7.out.below ((Below.refl _ W7).alloc (Nat.le_refl _) o)) (hE'.out.below (hB7'.out.alloc hB7'.out.size o)) (hT'.out.below (hB7'.out.alloc hB7'.out.size o)) (s := Sta.zero) (ev := evT t) rfl zero_in (by show (-9223372036854775808 : Int) ≤ 0 ∧ (0 : Int) ≤ 9223372036854775807; omega) hr
        have hck := fun w' => eCheck_any (evT t) w'
        rw [hm] at hck
        simp only [Wv.val, M.val, evT, Sta.val, Sta.cells, Sta.zero, List.map_cons, List.map_nil, List.cons_append, List.nil_append] at hc1 hck
        clear hm hr
        go_wp2_with fail
        refine (hc1 _).mono ?_
        rintro e w8 ⟨a8, cap8, rfl, hq⟩
        have hb8 := hq.out.2
        have hm8 := (hb8.block W7.heap.size (by simp)).trans (heap_alloc_new W7 _)
        have hbx8 := (hbx7'.out.below ((Below.refl _ W7).alloc (Nat.le_refl _) _)).below hb8
        have hW8 := Lib.hid ((hW7.out.below ((Below.refl _ W7).alloc (Nat.le_refl _) _)).below hb8)
        have hB8 := Lib.hid ((hB7'.out.alloc hB7'.out.size _).trans (hb8.mono (hB7'.out.alloc hB7'.out.size _).size))
        have hO8 := Lib.hid hq.out.1
        have hbx8' := Lib.hid hbx8
        have sz8 : W7.heap.size < w8.heap.size := Nat.lt_of_lt_of_le (by simp) hb8.size
        have mq := fun o => row7 ((Below.block ((Below.refl _ w8).alloc (Nat.le_refl _) o) W7.heap.size sz8).trans hm8)
        simp only [forall_and] at mq
        obtain ⟨m0, m1, m2, m3, m4, m5, m6⟩ := mq
        clear hc1 hq hb8 hm8 hbx8 b0 b1 b2 b3
        go_wp2_with fail
        refine (hck _).mono ?_
        rintro e w9 ⟨rfl, hr9⟩
        have hal := fun o => (Below.refl w8.heap.size w8).alloc (Nat.le_refl _) o
        have hbx9 := (hbx8'.out.below (hal _)).below hr9.below
        have hW9 := (hW8.out.below (hal _)).below hr9.below
        have hO9 := Lib.hid ((hO8.out.below (hal _)).below hr9.below)
        have hB9 := Lib.hid ((hB8.out.alloc hB8.out.size _).trans (hr9.below.mono (hB8.out.alloc hB8.out.size _).size))
        have hst := (hr9.below.block w8.heap.size (by simp)).trans (heap_alloc_new w8 _)
        obtain ⟨s0, s1, s2, s3, s4, s5, s6, s7, s8, s9⟩ := row10 hst
        obtain ⟨b0, b1, b2, b3⟩ := row4 hbx9
        clear hck hr9 hal hbx9 hst m0 m1 m2 m3 m4 m5 m6
        obtain ⟨lb, lo, hla, hlm⟩ : ∃ lb lo, oa = some ⟨lb, lo, none⟩ ∧ ∀ j, j < k → LkAt w9 lb (lo + j * 4) ((lksOf bs k).getD j default) := by
          rcases hW9.2.1.2.2.2 with g | g
          · exfalso; simp only at g; omega
          · exact g
        have hlx := hlm kk hkl
        rw [hlk'.out] at hlx
        obtain ⟨-, -, -, l2, -⟩ := hlx
        subst hla
        have hfix := tmod_fix n k h0
        have hrng := tmod_rng n k h0
        rw [hkk'.out] at hfix
        have hk0 : ((k : Int) == 0) = false := by simp; omega
        generalize hrr : n.tmod (k : Int) = rr at *
        clear hlm hW9
        go_wp2
        go_ret
        exact ⟨rfl, hB9.out⟩
      · obtain ⟨hm, h0, kk, look, hkl, hkk0, hlk0, hlook, ht, hr⟩ := hw
        have htr : 0 ≤ t ∧ t ≤ 4611686018427387903 := chkM_time hm
        have hkk' := Lib.hid hkk0
        have hlk' := Lib.hid hlk0
        clear hkk0 hlk0
        have hc1 := fun o => vmRun_lit (hW7.out.below ((Below.refl _ W7).alloc (Nat.le_refl _) o)) (hE'.out.below (hB7'.out.alloc hB7'.out.size o)) (hT'.out.below (hB7'.out.alloc hB7'.out.size o)) (s := Sta.zero) (ev := evT t) rfl zero_in (by show (-9223372036854775808 : Int) ≤ 0 ∧ (0 : Int) ≤ 9223372036854775807; omega) hr
        have hck := fun w' => eCheck_any (evT t) w'
        rw [hm] at hck
        simp only [Wv.val, M.val, evT, Sta.val, Sta.cells, Sta.zero, List.map_cons, List.map_nil, List.cons_append, List.nil_append] at hc1 hck
        clear hm hr
        go_wp2_with fail
        refine (hc1 _).mono ?_
        rintro e w8 ⟨a8, cap8, rfl, hq⟩
        have hb8 := hq.out.2
        have hm8 := (hb8.block W7.heap.size (by simp)).trans (heap_alloc_new W7 _)
        have hbx8 := (hbx7'.out.below ((Below.refl _ W7).alloc (Nat.le_refl _) _)).below hb8
        have hW8 := Lib.hid ((hW7.out.below ((Below.refl _ W7).alloc (Nat.le_refl _) _)).below hb8)
        have hB8 := Lib.hid ((hB7'.out.alloc hB7'.out.size _).trans (hb8.mono (hB7'.out.alloc hB7'.out.size _).size))
        have hO8 := Lib.hid hq.out.1
        have hbx8' := Lib.hid hbx8
        have sz8 : W7.heap.size < w8.heap.size := Nat.lt_of_lt_of_le (by simp) hb8.size
        have mq := fun o => row7 ((Below.block ((Below.refl _ w8).alloc (Nat.le_refl _) o) W7.heap.size sz8).trans hm8)
        simp only [forall_and] at mq
        obtain ⟨m0, m1, m2, m3, m4, m5, m6⟩ := mq
        clear hc1 hq hb8 hm8 hbx8 b0 b1 b2 b3
        go_wp2_with fail
        refine (hck _).mono ?_
        rintro e w9 ⟨rfl, hr9⟩
        have hal := fun o => (Below.refl w8.heap.size w8).alloc (Nat.le_refl _) o
        have hbx9 := (hbx8'.out.below (hal _)).below hr9.below
        have hW9 := (hW8.out.below (hal _)).below hr9.below
        have hO9 := Lib.hid ((hO8.out.below (hal _)).below hr9.below)
        have hB9 := Lib.hid ((hB8.out.alloc hB8.out.size _).trans (hr9.below.mono (hB8.out.alloc hB8.out.size _).size))
        have hst := (hr9.below.block w8.heap.size (by simp)).trans (heap_alloc_new w8 _)
        obtain ⟨s0, s1, s2, s3, s4, s5, s6, s7, s8, s9⟩ := row10 hst
        obtain ⟨b0, b1, b2, b3⟩ := row4 hbx9
        clear hck hr9 hal hbx9 hst m0 m1 m2 m3 m4 m5 m6
        obtain ⟨lb, lo, hla, hlm⟩ : ∃ lb lo, oa = some ⟨lb, lo, none⟩ ∧ ∀ j, j < k → LkAt w9 lb (lo + j * 4) ((lksOf bs k).getD j default) := by
          rcases hW9.2.1.2.2.2 with g | g
          · exfalso; simp only at g; omega
          · exact g
        have hlx := hlm kk hkl
        rw [hlk'.out] at hlx
        obtain ⟨-, -, -, l2, -⟩ := hlx
        subst hla
        have hfix := tmod_fix n k h0
        have hrng := tmod_rng n k h0
        rw [hkk'.out] at hfix
        have hk0 : ((k : Int) == 0) = false := by simp; omega
        generalize hrr : n.tmod (k : Int) = rr at *
        clear hlm hW9
        have heo := fun w => eqOt_refl (kk : Int) d v w
        obtain ⟨ob, oo, hoa, hom⟩ : ∃ ob oo, a8 = some ⟨ob, oo, none⟩ ∧ ∀ j, j < 1 → OtAt w9 ob (oo + j * 3) (([⟨(kk : Int), d, v⟩] : List Ot).getD j default) := by
          rcases hO9.out.2.2.2 with g | g
          · exfalso; simp at g
          · exact g
        have hox := hom 0 (by omega)
        obtain ⟨-, o0, o1, o2⟩ := hox
        subst hoa
        simp only [List.getD_cons_zero, Nat.zero_mul, Nat.add_zero] at o0 o1 o2
        clear hom
        go_wp2
        go_ret
        exact ⟨rfl, hB9.out⟩
theorem wf_i32' {n : Int} (h : (Lit.int .i32 n).wf = true) : -2147483648 ≤ n ∧ n ≤ 2147483647 := by
  simp [Lit.wf, IntKind.min, IntKind.max, IntKind.signed, IntKind.bits] at h
  omega
theorem lawVmSendsOne {w : World} {a : Option Addr} {len cap : Nat} {bs : List Int} {eb : Addr} (hE : ErrIs w eb) (hT : ErrT w) (n : Int) (hn : (Lit.int .i32 n).wf = true) (d : Int) (hd : (Lit.int .i32 d).wf = true) (v : Int) (hv : (Lit.int .i32 v).wf = true) (t : Int) (ht : (Lit.int .i64 t).wf = true) (hB : Byts w a len cap bs) (hlr : len ≤ 140737488351232) (hn0 : NilP a len cap) :
    Calls Tryd.prog 10 #[.slice a len cap, .int .i32 n, .int .i32 d, .int .i32 v, .int .i64 t] w fun e w' => e = .returned (.bool true) ∧ Below w.heap.size w w' :=
  one_walk hE hT hB hlr n d v t (wf_i32' hn) (wf_i32' hd) (wf_i32' hv)
end Go.Proofs.YtghbdpjegmdhbaaDoor
