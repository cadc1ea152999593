/-
  The contract of the program's sending.
-/
import Derived.Test.YtminfmjgmmkaoaaGreatDoorVmH2
import Derived.Test.YtminfmjgmmkaoaaGreatDoorVmF
import Derived.Test.YtminfmjgmmkaoaaGreatDoorQA
import Derived.Deep.AppendLies
import Derived.Deep.RegionLaw
import Derived.Laws.Rows
namespace Go.Proofs.YtminfmjgmmkaoaaGreatDoor
open Go.ChangeShapes Go.WideShapes Go.ChangeAt Go.RowKit Go.Sort
set_option linter.unusedVariables false
set_option maxRecDepth 4000

theorem hown_slice {w : World} {base : Nat} {e : TypeId} {size : Nat} {v : Value} {n : Nat} {xs : List Value} (h : w.ownsRow base e size v n xs) : ∃ a cap, v = .slice a n cap := by
  rcases h.2 with ⟨rfl, rfl⟩ | ⟨g, cap, cur, rfl, _⟩
  · exact ⟨none, 0, rfl⟩
  · exact ⟨_, cap, rfl⟩
theorem chosen_any (A : Int) (n kk : Nat) (h0 : 0 < n) (h1 : n ≤ 1024) (hk : A % (n : Int) = (kk : Int)) (w : World) :
    Calls Tryz.prog 111 #[.int .i64 A, .int .i64 n] w fun e w' => e = .returned (.int .i64 kk) ∧ w = w' := by
  obtain ⟨k2, hk1, hk2, hk3⟩ := link_of A n h0
  obtain rfl : kk = k2 := by omega
  have hn : ¬ (n : Int) = 0 := by omega
  rcases hk3 with ht | ⟨T, ht, hT0, hTn⟩
  · have h0' : ¬ (A.tmod (n : Int)) < 0 := by omega
    have ht' := Lib.hid ht
    clear hk hk1 ht
    go_enter Tryz.func111, Tryz.ntmps111
    go_wp2
    go_ret
    exact ⟨ret_i64 (by have := ht'.out; first | exact this | (unfold wrap64; omega)), rfl⟩
  · have hlt : A.tmod (n : Int) < 0 := by omega
    have ht' := Lib.hid ht
    have hT' := Lib.hid (And.intro hT0 hTn)
    clear hk hk1 ht hT0 hTn
    go_enter Tryz.func111, Tryz.ntmps111
    go_wp2
    go_ret
    exact ⟨ret_i64 (by have e1 := ht'.out; have e2 := hT'.out; first | omega | (unfold wrap64; omega)), rfl⟩
theorem vAdd_ok (t d : Int) (ht : 0 ≤ t ∧ t ≤ 4611686018427387903) (h1 : 1 ≤ d) (h2 : ¬ 4611686018427387903 - t < d) (w : World) :
    Calls Tryz.prog 112 #[.int .i64 t, .int .i64 d] w fun e w' => e = .returned (.tuple #[.int .i64 (t + d), .int .i64 0]) ∧ w = w' := by
  obtain ⟨ht1, ht2⟩ := ht
  have h1' : ¬ d < 0 := by omega
  go_enter Tryz.func112, Tryz.ntmps112
  go_wp2
  go_ret2
  exact ⟨rfl, rfl⟩
theorem vAdd_far (t d : Int) (ht : 0 ≤ t ∧ t ≤ 4611686018427387903) (h1 : 1 ≤ d) (h2 : 4611686018427387903 - t < d) (w : World) :
    Calls Tryz.prog 112 #[.int .i64 t, .int .i64 d] w fun e w' => e = .returned (.tuple #[.int .i64 0, .int .i64 10]) ∧ w = w' := by
  obtain ⟨ht1, ht2⟩ := ht
  have h1' : ¬ d < 0 := by omega
  go_enter Tryz.func112, Tryz.ntmps112
  go_wp2
  go_ret2
  exact ⟨rfl, rfl⟩
def ot3 (o : Ot) : Array Value := #[.int .i64 o.link, .int .i64 o.delay, .int .i64 o.value]
theorem ot3_one (o : Ot) : (ot3 o).all (·.oneCell') = true := by simp [ot3, Value.oneCell']
theorem infoOt : (Tryz.prog.info? 129).map (·.size) = some 3 := by kernel_rfl
theorem hinfoOut : (Tryz.prog.info? 129).map (fun i => (i.zero, i.size, i.bytes)) = some (some (.agg #[.int .i64 0, .int .i64 0, .int .i64 0]), 3, 24) := by kernel_rfl
theorem hsetRow_heap {w : World} {g : Nat} {old new : Array Value} {t : TypeId} (h : w.heap[g]? = some (.cells old t (0, 0))) : (w.setRow g new).heap[g]? = some (.cells new t (0, 0)) := by
  simp [World.setRow, Array.getElem?_modify, h]
theorem hbelow_row {B : Nat} {a w : World} (h : Below B a w) {g : Nat} (hg : B ≤ g) (cs : Array Value) : Below B a (w.setRow g cs) := by
  refine h.trans ⟨rfl, rfl, rfl, by simp [World.setRow], fun k hk => ?_⟩
  simp only [World.setRow, Array.getElem?_modify]
  rw [if_neg (by omega)]
theorem hrow_cell {w : World} {g : Nat} {C : Array Value} {t : TypeId} {fr : Nat × Nat} (h : w.heap[g]? = some (.cells C t fr)) (j : Nat) {u : Value} (hj : C[j]? = some u) : w.cell? ⟨g, j, none⟩ = some u := by
  simp [World.cell?, h, hj]
section
variable {b1 : Nat} {w : World} {x : Nat} {v : Wv} {W : Wd} {ev : M} {ov : Value} {m : Mc}
set_option maxHeartbeats 4000000 in
theorem h_send_links (h : HM b1 w x v W ev ov m) (op : Int) (a b c : Int) (h0 : v.ll = 0) :
    Calls Tryz.prog 99 #[.pointer (some ⟨x, 0, none⟩), .agg #[.int .i64 op, .int .i64 a, .int .i64 b, .int .i64 c]] w (InsQ b1 w x v W ev (.on m)) := by
  obtain ⟨oa, oc, ho⟩ := hown_slice h.own
  have hD1 : HM b1 (w.alloc (.cells #[.int .i64 op, .int .i64 a, .int .i64 b, .int .i64 c] 62)) x v W ev ov m := h.alloc (.cells #[.int .i64 op, .int .i64 a, .int .i64 b, .int .i64 c] 62)
  have hK1 : Kp x b1 w (w.alloc (.cells #[.int .i64 op, .int .i64 a, .int .i64 b, .int .i64 c] 62)) := Kp.of_below ((Below.refl b1 w).alloc h.hb (.cells #[.int .i64 op, .int .i64 a, .int .i64 b, .int .i64 c] 62))
  have hI1 : InsAt (w.alloc (.cells #[.int .i64 op, .int .i64 a, .int .i64 b, .int .i64 c] 62)) w.heap.size 0 ⟨op, a, b, c⟩ := InsAt.mk w op a b c
  have hxw := h.xw
  clear h
  go_enter Tryz.func99, Tryz.ntmps99
  go_upto_region 1 with (fail)
  generalize (w.alloc (.cells #[.int .i64 op, .int .i64 a, .int .i64 b, .int .i64 c] 62)) = W1 at *
  have e2 : W1.cell? ⟨x, 2, none⟩ = some (.slice v.la v.ll v.lc) := hD1.cell 2 rfl
  rw [h0] at e2
  have hQ := Lib.hid (And.intro hD1 hK1)
  clear hD1 hK1 hI1 ho
  go_wp2
  first | go_end0 | refine bodyPost_ret (results_none rfl _ _ _) rfl ?_
  exact InsQ.on rfl hQ.out
set_option maxHeartbeats 4000000 in
theorem h_send_full (h : HM b1 w x v W ev ov m) (op : Int) (a b c : Int) (h0 : 0 < v.ll) (hl : v.ll ≤ 1024) (h8 : m.o.length = 8) :
    Calls Tryz.prog 99 #[.pointer (some ⟨x, 0, none⟩), .agg #[.int .i64 op, .int .i64 a, .int .i64 b, .int .i64 c]] w (InsQ b1 w x v W ev (.on m)) := by
  obtain ⟨oa, oc, ho⟩ := hown_slice h.own
  have hD1 : HM b1 (w.alloc (.cells #[.int .i64 op, .int .i64 a, .int .i64 b, .int .i64 c] 62)) x v W ev ov m := h.alloc (.cells #[.int .i64 op, .int .i64 a, .int .i64 b, .int .i64 c] 62)
  have hK1 : Kp x b1 w (w.alloc (.cells #[.int .i64 op, .int .i64 a, .int .i64 b, .int .i64 c] 62)) := Kp.of_below ((Below.refl b1 w).alloc h.hb (.cells #[.int .i64 op, .int .i64 a, .int .i64 b, .int .i64 c] 62))
  have hI1 : InsAt (w.alloc (.cells #[.int .i64 op, .int .i64 a, .int .i64 b, .int .i64 c] 62)) w.heap.size 0 ⟨op, a, b, c⟩ := InsAt.mk w op a b c
  have hxw := h.xw
  clear h
  go_enter Tryz.func99, Tryz.ntmps99
  go_upto_region 1 with (fail)
  generalize (w.alloc (.cells #[.int .i64 op, .int .i64 a, .int .i64 b, .int .i64 c] 62)) = W1 at *
  have e2 : W1.cell? ⟨x, 2, none⟩ = some (.slice v.la v.ll v.lc) := hD1.cell 2 rfl
  have e29 : W1.cell? ⟨x, 29, none⟩ = some (.slice oa m.o.length oc) := ho ▸ hD1.o
  rw [h8] at e29
  have hn0 : ((v.ll : Int) == 0) = false := by simp; omega
  have hQ := Lib.hid (And.intro hD1 hK1)
  clear hD1 hK1 hI1 ho
  go_wp2
  first | go_end0 | refine bodyPost_ret (results_none rfl _ _ _) rfl ?_
  exact InsQ.on rfl hQ.out
set_option maxHeartbeats 4000000 in
theorem h_send_look (h : HM b1 w x v W ev ov m) (op : Int) (a b c : Nat) (ha : a < 16) (hb : b < 16) (hc : c < 16) (hw : Wds w v W) (h0 : 0 < v.ll) (hl : v.ll ≤ 1024) (h8 : m.o.length < 8) (ht : 0 ≤ ev.k.t ∧ ev.k.t ≤ 4611686018427387903) (kk : Nat) (hkl : kk < v.ll) (hk : m.reg a % (v.ll : Int) = (kk : Int)) (src dst look : Int) (loose : Bool) (hlk : W.links.getD kk default = ⟨src, dst, look, loose⟩) (hB : m.reg b < look) :
    Calls Tryz.prog 99 #[.pointer (some ⟨x, 0, none⟩), .agg #[.int .i64 op, .int .i64 a, .int .i64 b, .int .i64 c]] w (InsQ b1 w x v W ev (.fault 50)) := by
  obtain ⟨oa, oc, ho⟩ := hown_slice h.own
  have hD1 : HM b1 (w.alloc (.cells #[.int .i64 op, .int .i64 a, .int .i64 b, .int .i64 c] 62)) x v W ev ov m := h.alloc (.cells #[.int .i64 op, .int .i64 a, .int .i64 b, .int .i64 c] 62)
  have hK1 : Kp x b1 w (w.alloc (.cells #[.int .i64 op, .int .i64 a, .int .i64 b, .int .i64 c] 62)) := Kp.of_below ((Below.refl b1 w).alloc h.hb (.cells #[.int .i64 op, .int .i64 a, .int .i64 b, .int .i64 c] 62))
  have hI1 : InsAt (w.alloc (.cells #[.int .i64 op, .int .i64 a, .int .i64 b, .int .i64 c] 62)) w.heap.size 0 ⟨op, a, b, c⟩ := InsAt.mk w op a b c
  have hxw := h.xw
  obtain ⟨lb, lo, hla, hlm⟩ : ∃ lb lo, v.la = some ⟨lb, lo, none⟩ ∧ ∀ j, j < v.ll → LkAt w lb (lo + j * 4) (W.links.getD j default) := by
    rcases hw.2.1.2.2.2 with g | g
    · omega
    · exact g
  have hlx : LkAt (w.alloc (.cells #[.int .i64 op, .int .i64 a, .int .i64 b, .int .i64 c] 62)) lb (lo + kk * 4) ⟨src, dst, look, loose⟩ := by have := hlm kk hkl; rw [hlk] at this; exact this.below ((Below.refl _ w).alloc (Nat.le_refl _) _)
  have hcall := fun w => chosen_any (m.reg a) v.ll kk h0 hl hk w
  have hn0 : ((v.ll : Int) == 0) = false := by simp; omega
  have h8' : ((m.o.length : Int) == 8) = false := by simp; omega
  have hbw := h.hb
  have hla' := Lib.hid hla
  have ho' := Lib.hid ho
  have hB' := Lib.hid hB
  clear h hw hlm hlk hk hla ho hB
  go_enter Tryz.func99, Tryz.ntmps99
  go_upto_region 1 with (fail)
  generalize (w.alloc (.cells #[.int .i64 op, .int .i64 a, .int .i64 b, .int .i64 c] 62)) = W1 at *
  have e2 : W1.cell? ⟨x, 2, none⟩ = some (.slice v.la v.ll v.lc) := hD1.cell 2 rfl
  have e29 : W1.cell? ⟨x, 29, none⟩ = some (.slice oa m.o.length oc) := ho'.out ▸ hD1.o
  have hD1' := Lib.hid hD1
  have hK1' := Lib.hid hK1
  have hI1' := Lib.hid hI1
  have hlx' := Lib.hid hlx
  have hb1 := hD1.hb
  clear hD1 hK1 hI1 hlx
  go_upto_region 3 with (fail)
  obtain ⟨-, i1, i2, i3⟩ := hI1'.out.cells4
  simp only at i1 i2 i3
  have hnw : w.heap.size < W1.heap.size := hI1'.out.1
  have hxW : x < W1.heap.size := hD1'.out.xw
  have j1 : ∀ p, (wide W1 p).cell? ⟨w.heap.size, 1, none⟩ = some (.int .i64 a) := fun p => wide_cell p hnw i1
  have j2 : ∀ p, (wide W1 p).cell? ⟨w.heap.size, 2, none⟩ = some (.int .i64 b) := fun p => wide_cell p hnw i2
  have j3 : ∀ p, (wide W1 p).cell? ⟨w.heap.size, 3, none⟩ = some (.int .i64 c) := fun p => wide_cell p hnw i3
  have ra : ∀ p, (wide W1 p).cell? ⟨x, 11 + a, none⟩ = some (.int .i64 (m.reg a)) := fun p => wide_cell p hxW (hD1'.out.reg a ha)
  have rb : ∀ p, (wide W1 p).cell? ⟨x, 11 + b, none⟩ = some (.int .i64 (m.reg b)) := fun p => wide_cell p hxW (hD1'.out.reg b hb)
  have rc : ∀ p, (wide W1 p).cell? ⟨x, 11 + c, none⟩ = some (.int .i64 (m.reg c)) := fun p => wide_cell p hxW (hD1'.out.reg c hc)
  clear i1 i2 i3 e2 e29
  have ha' : (a : Int) < 16 := by omega
  have hb' : (b : Int) < 16 := by omega
  have hc' : (c : Int) < 16 := by omega
  refine wp_region_alloc_tail 25 (.cells #[.int .i64 0, .int .i64 0, .int .i64 0] 129 (0, 0)) (some 5) (by kernel_rfl) (by kernel_rfl) (fun _ _ => by kernel_rfl) (by kernel_rfl) ?_
  simp only [List.take_succ_cons, List.take_zero, List.drop_succ_cons, List.drop_zero]
  repeat (refine wpQuietB_step (fun K hK => ?_); go_simp; first | (refine hK _ ?_; clear hK K) | (apply Exists.intro; refine ⟨fun p => ((hcall _).mono fun e w'' h => ⟨h.1, wide_of_below (h.2 ▸ Below.refl _ _)⟩), hK _ ?_⟩; clear hK K))
  refine wpQuietB_nil ?_
  intro g W2 hb2 hg hz
  clear hcall j1 j2 j3 ra rb rc
  go_wp2_with (refine wpList_store_row rfl 129 (.tmp 5) (.tmp 48) rfl g (ot3 ⟨kk, m.reg b, m.reg c⟩) rfl rfl 129 #[.int .i64 0, .int .i64 0, .int .i64 0] hz infoOt rfl (ot3_one _) ?_)
  have hb3 := hbelow_row hb2 hg (ot3 ⟨kk, m.reg b, m.reg c⟩)
  have hg3 := hsetRow_heap (new := ot3 ⟨kk, m.reg b, m.reg c⟩) hz
  generalize W2.setRow g (ot3 ⟨kk, m.reg b, m.reg c⟩) = W3 at *
  have hD3 := Lib.hid (hD1'.out.below hb3)
  have hK3 := Lib.hid (hK1'.out.then_below (hb3.mono hb1))
  have hI3 := Lib.hid (hI1'.out.below hb3)
  have hl3 := Lib.hid (hlx'.out.below hb3)
  clear hz hb2 W2 hD1' hK1' hI1' hlx'
  have g1 : W3.cell? ⟨g, 1, none⟩ = some (.int .i64 (m.reg b)) := hrow_cell hg3 1 rfl
  have g0 : W3.cell? ⟨g, 0, none⟩ = some (.int .i64 kk) := hrow_cell hg3 0 rfl
  obtain ⟨-, -, -, l2, -⟩ := hl3.out
  simp only at l2
  have hkI : (kk : Int) < (v.ll : Int) := by omega
  rw [hla'.out]
  have hB := hB'.out
  go_quiet (fail)
  have hK4 := Lib.hid (hK3.out.then_below ((Read.drew W3 nq).below.mono (Nat.le_trans hb1 hb3.size)))
  generalize W3.drewN nq = W4 at *
  clear hD3 hK3 hI3 hl3 hg3 hb3 g1 g0 l2
  go_wp2
  exact ⟨rfl, rfl, by decide, hK4.out⟩
set_option maxHeartbeats 4000000 in
theorem h_send_time (h : HM b1 w x v W ev ov m) (op : Int) (a b c : Nat) (ha : a < 16) (hb : b < 16) (hc : c < 16) (hw : Wds w v W) (h0 : 0 < v.ll) (hl : v.ll ≤ 1024) (h8 : m.o.length < 8) (ht : 0 ≤ ev.k.t ∧ ev.k.t ≤ 4611686018427387903) (kk : Nat) (hkl : kk < v.ll) (hk : m.reg a % (v.ll : Int) = (kk : Int)) (src dst look : Int) (loose : Bool) (hlk : W.links.getD kk default = ⟨src, dst, look, loose⟩) (hlook : 1 ≤ look) (hB : ¬ m.reg b < look) (hT : 4611686018427387903 - ev.k.t < m.reg b) :
    Calls Tryz.prog 99 #[.pointer (some ⟨x, 0, none⟩), .agg #[.int .i64 op, .int .i64 a, .int .i64 b, .int .i64 c]] w (InsQ b1 w x v W ev (.fault 10)) := by
  obtain ⟨oa, oc, ho⟩ := hown_slice h.own
  have hD1 : HM b1 (w.alloc (.cells #[.int .i64 op, .int .i64 a, .int .i64 b, .int .i64 c] 62)) x v W ev ov m := h.alloc (.cells #[.int .i64 op, .int .i64 a, .int .i64 b, .int .i64 c] 62)
  have hK1 : Kp x b1 w (w.alloc (.cells #[.int .i64 op, .int .i64 a, .int .i64 b, .int .i64 c] 62)) := Kp.of_below ((Below.refl b1 w).alloc h.hb (.cells #[.int .i64 op, .int .i64 a, .int .i64 b, .int .i64 c] 62))
  have hI1 : InsAt (w.alloc (.cells #[.int .i64 op, .int .i64 a, .int .i64 b, .int .i64 c] 62)) w.heap.size 0 ⟨op, a, b, c⟩ := InsAt.mk w op a b c
  have hxw := h.xw
  obtain ⟨lb, lo, hla, hlm⟩ : ∃ lb lo, v.la = some ⟨lb, lo, none⟩ ∧ ∀ j, j < v.ll → LkAt w lb (lo + j * 4) (W.links.getD j default) := by
    rcases hw.2.1.2.2.2 with g | g
    · omega
    · exact g
  have hlx : LkAt (w.alloc (.cells #[.int .i64 op, .int .i64 a, .int .i64 b, .int .i64 c] 62)) lb (lo + kk * 4) ⟨src, dst, look, loose⟩ := by have := hlm kk hkl; rw [hlk] at this; exact this.below ((Below.refl _ w).alloc (Nat.le_refl _) _)
  have hcall := fun w => chosen_any (m.reg a) v.ll kk h0 hl hk w
  have hn0 : ((v.ll : Int) == 0) = false := by simp; omega
  have h8' : ((m.o.length : Int) == 8) = false := by simp; omega
  have hbw := h.hb
  have hla' := Lib.hid hla
  have ho' := Lib.hid ho
  have hB' := Lib.hid hB
  have hT' := Lib.hid hT
  clear hT
  clear h hw hlm hlk hk hla ho hB
  go_enter Tryz.func99, Tryz.ntmps99
  go_upto_region 1 with (fail)
  generalize (w.alloc (.cells #[.int .i64 op, .int .i64 a, .int .i64 b, .int .i64 c] 62)) = W1 at *
  have e2 : W1.cell? ⟨x, 2, none⟩ = some (.slice v.la v.ll v.lc) := hD1.cell 2 rfl
  have e29 : W1.cell? ⟨x, 29, none⟩ = some (.slice oa m.o.length oc) := ho'.out ▸ hD1.o
  have hD1' := Lib.hid hD1
  have hK1' := Lib.hid hK1
  have hI1' := Lib.hid hI1
  have hlx' := Lib.hid hlx
  have hb1 := hD1.hb
  clear hD1 hK1 hI1 hlx
  go_upto_region 3 with (fail)
  obtain ⟨-, i1, i2, i3⟩ := hI1'.out.cells4
  simp only at i1 i2 i3
  have hnw : w.heap.size < W1.heap.size := hI1'.out.1
  have hxW : x < W1.heap.size := hD1'.out.xw
  have j1 : ∀ p, (wide W1 p).cell? ⟨w.heap.size, 1, none⟩ = some (.int .i64 a) := fun p => wide_cell p hnw i1
  have j2 : ∀ p, (wide W1 p).cell? ⟨w.heap.size, 2, none⟩ = some (.int .i64 b) := fun p => wide_cell p hnw i2
  have j3 : ∀ p, (wide W1 p).cell? ⟨w.heap.size, 3, none⟩ = some (.int .i64 c) := fun p => wide_cell p hnw i3
  have ra : ∀ p, (wide W1 p).cell? ⟨x, 11 + a, none⟩ = some (.int .i64 (m.reg a)) := fun p => wide_cell p hxW (hD1'.out.reg a ha)
  have rb : ∀ p, (wide W1 p).cell? ⟨x, 11 + b, none⟩ = some (.int .i64 (m.reg b)) := fun p => wide_cell p hxW (hD1'.out.reg b hb)
  have rc : ∀ p, (wide W1 p).cell? ⟨x, 11 + c, none⟩ = some (.int .i64 (m.reg c)) := fun p => wide_cell p hxW (hD1'.out.reg c hc)
  clear i1 i2 i3 e2 e29
  have ha' : (a : Int) < 16 := by omega
  have hb' : (b : Int) < 16 := by omega
  have hc' : (c : Int) < 16 := by omega
  refine wp_region_alloc_tail 25 (.cells #[.int .i64 0, .int .i64 0, .int .i64 0] 129 (0, 0)) (some 5) (by kernel_rfl) (by kernel_rfl) (fun _ _ => by kernel_rfl) (by kernel_rfl) ?_
  simp only [List.take_succ_cons, List.take_zero, List.drop_succ_cons, List.drop_zero]
  repeat (refine wpQuietB_step (fun K hK => ?_); go_simp; first | (refine hK _ ?_; clear hK K) | (apply Exists.intro; refine ⟨fun p => ((hcall _).mono fun e w'' h => ⟨h.1, wide_of_below (h.2 ▸ Below.refl _ _)⟩), hK _ ?_⟩; clear hK K))
  refine wpQuietB_nil ?_
  intro g W2 hb2 hg hz
  clear hcall j1 j2 j3 ra rb rc
  go_wp2_with (refine wpList_store_row rfl 129 (.tmp 5) (.tmp 48) rfl g (ot3 ⟨kk, m.reg b, m.reg c⟩) rfl rfl 129 #[.int .i64 0, .int .i64 0, .int .i64 0] hz infoOt rfl (ot3_one _) ?_)
  have hb3 := hbelow_row hb2 hg (ot3 ⟨kk, m.reg b, m.reg c⟩)
  have hg3 := hsetRow_heap (new := ot3 ⟨kk, m.reg b, m.reg c⟩) hz
  generalize W2.setRow g (ot3 ⟨kk, m.reg b, m.reg c⟩) = W3 at *
  have hD3 := Lib.hid (hD1'.out.below hb3)
  have hK3 := Lib.hid (hK1'.out.then_below (hb3.mono hb1))
  have hI3 := Lib.hid (hI1'.out.below hb3)
  have hl3 := Lib.hid (hlx'.out.below hb3)
  clear hz hb2 W2 hD1' hK1' hI1' hlx'
  have g1 : W3.cell? ⟨g, 1, none⟩ = some (.int .i64 (m.reg b)) := hrow_cell hg3 1 rfl
  have g0 : W3.cell? ⟨g, 0, none⟩ = some (.int .i64 kk) := hrow_cell hg3 0 rfl
  obtain ⟨-, -, -, l2, -⟩ := hl3.out
  simp only at l2
  have hkI : (kk : Int) < (v.ll : Int) := by omega
  rw [hla'.out]
  have hB := hB'.out
  go_quiet (fail)
  have hb4 := hb3.trans ((Read.drew W3 nq).below.mono hb3.size)
  have hD4 := Lib.hid (hD3.out.below (Read.drew W3 nq).below)
  have hK4 := Lib.hid (hK3.out.then_below ((Read.drew W3 nq).below.mono (Nat.le_trans hb1 hb3.size)))
  have hg4 : (W3.drewN nq).heap[g]? = some (.cells (ot3 ⟨kk, m.reg b, m.reg c⟩) 129 (0, 0)) := hg3
  have hsz : g < (W3.drewN nq).heap.size := (Array.getElem?_eq_some_iff.1 hg4).1
  generalize W3.drewN nq = W4 at *
  clear hD3 hK3 hI3 hl3 hg3 hb3 g1 g0 l2
  go_upto_region 6 with (fail)
  have g1 : W4.cell? ⟨g, 1, none⟩ = some (.int .i64 (m.reg b)) := hrow_cell hg4 1 rfl
  have e4 : W4.cell? ⟨x, 4, none⟩ = some (.int .i64 ev.k.t) := hD4.out.cell 4 rfl
  have hadd := fun w => vAdd_far ev.k.t (m.reg b) ht (by have := hlook; omega) (by have := hT'.out; omega) w
  go_quiet ((go_at_call 112; exact Calls.quiet_of_same ((hadd _).mono fun e w' h => ⟨h.1, h.2.symm⟩)))
  have hb5 := hb4.trans ((Read.drew W4 nq).below.mono hb4.size)
  have hD5 := Lib.hid (hD4.out.below (Read.drew W4 nq).below)
  have hK5 := Lib.hid (hK4.out.then_below ((Read.drew W4 nq).below.mono (Nat.le_trans hb1 hb4.size)))
  have hg5 : (W4.drewN nq).heap[g]? = some (.cells (ot3 ⟨kk, m.reg b, m.reg c⟩) 129 (0, 0)) := hg4
  have hsz5 : g < (W4.drewN nq).heap.size := hsz
  generalize W4.drewN nq = W5 at *
  clear hD4 hK4 hg4 hb4 g1 e4 hadd hsz
  go_wp2
  exact ⟨rfl, rfl, by decide, hK5.out⟩
set_option maxHeartbeats 4000000 in
theorem h_send_ok (h : HM b1 w x v W ev ov m) (op : Int) (a b c : Nat) (ha : a < 16) (hb : b < 16) (hc : c < 16) (hw : Wds w v W) (h0 : 0 < v.ll) (hl : v.ll ≤ 1024) (h8 : m.o.length < 8) (ht : 0 ≤ ev.k.t ∧ ev.k.t ≤ 4611686018427387903) (kk : Nat) (hkl : kk < v.ll) (hk : m.reg a % (v.ll : Int) = (kk : Int)) (src dst look : Int) (loose : Bool) (hlk : W.links.getD kk default = ⟨src, dst, look, loose⟩) (hlook : 1 ≤ look) (hB : ¬ m.reg b < look) (hT : ¬ 4611686018427387903 - ev.k.t < m.reg b) :
    Calls Tryz.prog 99 #[.pointer (some ⟨x, 0, none⟩), .agg #[.int .i64 op, .int .i64 a, .int .i64 b, .int .i64 c]] w (InsQ b1 w x v W ev (.on { m with o := m.o ++ [⟨kk, m.reg b, m.reg c⟩] })) := by
  obtain ⟨i0, hi, hz0, hz1, hz2⟩ := info_parts hinfoOut
  obtain ⟨oa, oc, ho⟩ := hown_slice h.own
  have hD1 : HM b1 (w.alloc (.cells #[.int .i64 op, .int .i64 a, .int .i64 b, .int .i64 c] 62)) x v W ev ov m := h.alloc (.cells #[.int .i64 op, .int .i64 a, .int .i64 b, .int .i64 c] 62)
  have hK1 : Kp x b1 w (w.alloc (.cells #[.int .i64 op, .int .i64 a, .int .i64 b, .int .i64 c] 62)) := Kp.of_below ((Below.refl b1 w).alloc h.hb (.cells #[.int .i64 op, .int .i64 a, .int .i64 b, .int .i64 c] 62))
  have hI1 : InsAt (w.alloc (.cells #[.int .i64 op, .int .i64 a, .int .i64 b, .int .i64 c] 62)) w.heap.size 0 ⟨op, a, b, c⟩ := InsAt.mk w op a b c
  have hxw := h.xw
  obtain ⟨lb, lo, hla, hlm⟩ : ∃ lb lo, v.la = some ⟨lb, lo, none⟩ ∧ ∀ j, j < v.ll → LkAt w lb (lo + j * 4) (W.links.getD j default) := by
    rcases hw.2.1.2.2.2 with g | g
    · omega
    · exact g
  have hlx : LkAt (w.alloc (.cells #[.int .i64 op, .int .i64 a, .int .i64 b, .int .i64 c] 62)) lb (lo + kk * 4) ⟨src, dst, look, loose⟩ := by have := hlm kk hkl; rw [hlk] at this; exact this.below ((Below.refl _ w).alloc (Nat.le_refl _) _)
  have hcall := fun w => chosen_any (m.reg a) v.ll kk h0 hl hk w
  have hn0 : ((v.ll : Int) == 0) = false := by simp; omega
  have h8' : ((m.o.length : Int) == 8) = false := by simp; omega
  have hbw := h.hb
  have hla' := Lib.hid hla
  have ho' := Lib.hid ho
  have hB' := Lib.hid hB
  have hT' := Lib.hid hT
  clear hT
  clear h hw hlm hlk hk hla ho hB
  go_enter Tryz.func99, Tryz.ntmps99
  go_upto_region 1 with (fail)
  generalize (w.alloc (.cells #[.int .i64 op, .int .i64 a, .int .i64 b, .int .i64 c] 62)) = W1 at *
  have e2 : W1.cell? ⟨x, 2, none⟩ = some (.slice v.la v.ll v.lc) := hD1.cell 2 rfl
  have e29 : W1.cell? ⟨x, 29, none⟩ = some (.slice oa m.o.length oc) := ho'.out ▸ hD1.o
  have hD1' := Lib.hid hD1
  have hK1' := Lib.hid hK1
  have hI1' := Lib.hid hI1
  have hlx' := Lib.hid hlx
  have hb1 := hD1.hb
  clear hD1 hK1 hI1 hlx
  go_upto_region 3 with (fail)
  obtain ⟨-, i1, i2, i3⟩ := hI1'.out.cells4
  simp only at i1 i2 i3
  have hnw : w.heap.size < W1.heap.size := hI1'.out.1
  have hxW : x < W1.heap.size := hD1'.out.xw
  have j1 : ∀ p, (wide W1 p).cell? ⟨w.heap.size, 1, none⟩ = some (.int .i64 a) := fun p => wide_cell p hnw i1
  have j2 : ∀ p, (wide W1 p).cell? ⟨w.heap.size, 2, none⟩ = some (.int .i64 b) := fun p => wide_cell p hnw i2
  have j3 : ∀ p, (wide W1 p).cell? ⟨w.heap.size, 3, none⟩ = some (.int .i64 c) := fun p => wide_cell p hnw i3
  have ra : ∀ p, (wide W1 p).cell? ⟨x, 11 + a, none⟩ = some (.int .i64 (m.reg a)) := fun p => wide_cell p hxW (hD1'.out.reg a ha)
  have rb : ∀ p, (wide W1 p).cell? ⟨x, 11 + b, none⟩ = some (.int .i64 (m.reg b)) := fun p => wide_cell p hxW (hD1'.out.reg b hb)
  have rc : ∀ p, (wide W1 p).cell? ⟨x, 11 + c, none⟩ = some (.int .i64 (m.reg c)) := fun p => wide_cell p hxW (hD1'.out.reg c hc)
  clear i1 i2 i3 e2 e29
  have ha' : (a : Int) < 16 := by omega
  have hb' : (b : Int) < 16 := by omega
  have hc' : (c : Int) < 16 := by omega
  refine wp_region_alloc_tail 25 (.cells #[.int .i64 0, .int .i64 0, .int .i64 0] 129 (0, 0)) (some 5) (by kernel_rfl) (by kernel_rfl) (fun _ _ => by kernel_rfl) (by kernel_rfl) ?_
  simp only [List.take_succ_cons, List.take_zero, List.drop_succ_cons, List.drop_zero]
  repeat (refine wpQuietB_step (fun K hK => ?_); go_simp; first | (refine hK _ ?_; clear hK K) | (apply Exists.intro; refine ⟨fun p => ((hcall _).mono fun e w'' h => ⟨h.1, wide_of_below (h.2 ▸ Below.refl _ _)⟩), hK _ ?_⟩; clear hK K))
  refine wpQuietB_nil ?_
  intro g W2 hb2 hg hz
  clear hcall j1 j2 j3 ra rb rc
  go_wp2_with (refine wpList_store_row rfl 129 (.tmp 5) (.tmp 48) rfl g (ot3 ⟨kk, m.reg b, m.reg c⟩) rfl rfl 129 #[.int .i64 0, .int .i64 0, .int .i64 0] hz infoOt rfl (ot3_one _) ?_)
  have hb3 := hbelow_row hb2 hg (ot3 ⟨kk, m.reg b, m.reg c⟩)
  have hg3 := hsetRow_heap (new := ot3 ⟨kk, m.reg b, m.reg c⟩) hz
  generalize W2.setRow g (ot3 ⟨kk, m.reg b, m.reg c⟩) = W3 at *
  have hD3 := Lib.hid (hD1'.out.below hb3)
  have hK3 := Lib.hid (hK1'.out.then_below (hb3.mono hb1))
  have hI3 := Lib.hid (hI1'.out.below hb3)
  have hl3 := Lib.hid (hlx'.out.below hb3)
  clear hz hb2 W2 hD1' hK1' hI1' hlx'
  have g1 : W3.cell? ⟨g, 1, none⟩ = some (.int .i64 (m.reg b)) := hrow_cell hg3 1 rfl
  have g0 : W3.cell? ⟨g, 0, none⟩ = some (.int .i64 kk) := hrow_cell hg3 0 rfl
  obtain ⟨-, -, -, l2, -⟩ := hl3.out
  simp only at l2
  have hkI : (kk : Int) < (v.ll : Int) := by omega
  rw [hla'.out]
  have hB := hB'.out
  go_quiet (fail)
  have hb4 := hb3.trans ((Read.drew W3 nq).below.mono hb3.size)
  have hD4 := Lib.hid (hD3.out.below (Read.drew W3 nq).below)
  have hK4 := Lib.hid (hK3.out.then_below ((Read.drew W3 nq).below.mono (Nat.le_trans hb1 hb3.size)))
  have hg4 : (W3.drewN nq).heap[g]? = some (.cells (ot3 ⟨kk, m.reg b, m.reg c⟩) 129 (0, 0)) := hg3
  have hsz : g < (W3.drewN nq).heap.size := (Array.getElem?_eq_some_iff.1 hg4).1
  generalize W3.drewN nq = W4 at *
  clear hD3 hK3 hI3 hl3 hg3 hb3 g1 g0 l2
  go_upto_region 6 with (fail)
  have g1 : W4.cell? ⟨g, 1, none⟩ = some (.int .i64 (m.reg b)) := hrow_cell hg4 1 rfl
  have e4 : W4.cell? ⟨x, 4, none⟩ = some (.int .i64 ev.k.t) := hD4.out.cell 4 rfl
  have hadd := fun w => vAdd_ok ev.k.t (m.reg b) ht (by have := hlook; omega) (by have := hT'.out; omega) w
  go_quiet ((go_at_call 112; exact Calls.quiet_of_same ((hadd _).mono fun e w' h => ⟨h.1, h.2.symm⟩)))
  have hb5 := hb4.trans ((Read.drew W4 nq).below.mono hb4.size)
  have hD5 := Lib.hid (hD4.out.below (Read.drew W4 nq).below)
  have hK5 := Lib.hid (hK4.out.then_below ((Read.drew W4 nq).below.mono (Nat.le_trans hb1 hb4.size)))
  have hg5 : (W4.drewN nq).heap[g]? = some (.cells (ot3 ⟨kk, m.reg b, m.reg c⟩) 129 (0, 0)) := hg4
  have hsz5 : g < (W4.drewN nq).heap.size := hsz
  generalize W4.drewN nq = W5 at *
  clear hD4 hK4 hg4 hb4 g1 e4 hadd hsz
  go_upto_region 9 with (fail)
  have e29 : W5.cell? ⟨x, 29, none⟩ = some (.slice oa m.o.length oc) := ho'.out ▸ hD5.out.o
  have hown' := Lib.hid hD5.out.own
  have hoe := ho'.out
  rw [hoe] at hown'
  have ag : Value.ownBlock (.slice oa m.o.length oc) ≠ some x := by
    intro e
    have := (hown'.out.lt x e).1
    have := hD5.out.xb
    omega
  clear hoe
  have hfz := hD5.out.fx 29
  have hDb := hD5.out.hb
  have hxb := hD5.out.xb
  have hxW5 : x < W5.heap.size := hD5.out.xw
  have q0 : W5.cell? ⟨g, 0, none⟩ = some (.int .i64 kk) := hrow_cell hg5 0 rfl
  have q1 : W5.cell? ⟨g, 1, none⟩ = some (.int .i64 (m.reg b)) := hrow_cell hg5 1 rfl
  have q2 : W5.cell? ⟨g, 2, none⟩ = some (.int .i64 (m.reg c)) := hrow_cell hg5 2 rfl
  go_region_law (first
    | (refine step_append_lies _ (by rfl) _ _ _ (by rfl) b1 129 i0 _ 3 24 Tryz.underlying92 hi hz0 hz1 hz2 rfl (by omega) (.slice oa m.o.length oc) m.o.length (flatO m.o) (by rfl) ((hown'.out.alloc _).drew) ⟨W5.heap.size, 0, none⟩ 1 1 (flatO [⟨kk, m.reg b, m.reg c⟩]) (by rfl) (by rfl) (World.news_of_block (cs := (Ot.cells ⟨kk, m.reg b, m.reg c⟩)) (t := 129) (fr := (0, 0)) (heap_alloc_new W5 _)) (by simp [Value.oneCell', flatO_one]) (by omega) (by unfold maxLen; omega) (by omega) (by simp; omega) (W5.heap.size + 1) (by simp) ?_; intro gg cap w4 hown4 hgrow hat hlt4; have q13 : w4.cell? ⟨x, 29, none⟩ = some (.slice oa m.o.length oc) := (hgrow.cell_far _ (by simp; omega) (Ne.symm ag)).trans (Lib.cell?_alloc_some _ e29); have q13f : w4.frozen? ⟨x, 29, none⟩ = false := (hgrow.frozen_far _ (by simp; omega) (Ne.symm ag)).trans (by rw [← hfz]; exact World.frozen?_alloc_past _ _ _ hxW5)))
  all_goals
    have hown5 : w4.ownsRow b1 129 3 (.slice (some ⟨gg, 0, none⟩) (m.o.length + 1) cap) (m.o ++ [(⟨kk, m.reg b, m.reg c⟩ : Ot)]).length (flatO (m.o ++ [(⟨kk, m.reg b, m.reg c⟩ : Ot)])) := by
      rw [flatO_append, List.length_append]; exact hown4
    have hrow := fun k hk => (hown'.out.lt k hk).1
    have hD6 := ((hD5.out.alloc _).drew).setO hgrow hrow hown5
    have hK6 := ((hK5.out.then_below ((((Below.refl b1 W5).alloc hDb _).drew).grown hgrow (by have := hDb; simp; omega) hrow))).set 29 (.slice (some ⟨gg, 0, none⟩) (m.o.length + 1) cap)
    have hQ := Lib.hid (And.intro hD6 hK6)
    clear hown4 hgrow hat hlt4 q13 q13f hown5 hD6 hK6 ag hrow
    generalize w4.setCell ⟨x, 29, none⟩ (.slice (some ⟨gg, 0, none⟩) (m.o.length + 1) cap) = W6 at hQ ⊢
    go_wp2
    go_end0
    exact InsQ.on rfl hQ.out

end
end Go.Proofs.YtminfmjgmmkaoaaGreatDoor
