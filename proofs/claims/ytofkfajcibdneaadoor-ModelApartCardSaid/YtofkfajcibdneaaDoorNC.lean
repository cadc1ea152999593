
/-
  The document's own check of a model's links.
-/
import Derived.Test.YtofkfajcibdneaaDoorNB
import Derived.Test.YtofkfajcibdneaaDoorQT
namespace Go.Proofs.YtofkfajcibdneaaDoor
open Go.ChangeShapes Go.WideShapes Go.ChangeAt Go.Shelf Go.RowKit Go.Lib Go.Sort Go.Deep
set_option linter.unusedVariables false
set_option linter.unusedSimpArgs false
set_option maxRecDepth 4000

theorem cell_of_block {w : World} {b o : Nat} {cs : Array Value} {t : TypeId} {u : Value} (h : w.heap[b]? = some (.cells cs t (0, 0))) (hu : cs[o]? = some u) : w.cell? ⟨b, o, none⟩ = some u := by
  simp [World.cell?, h, hu]
/-- A truth as a Bool. -/
noncomputable def boolOf (p : Prop) : Bool := @decide p (Classical.propDecidable p)
theorem boolOf_true {p : Prop} (h : p) : boolOf p = true := by simp [boolOf, h]
theorem boolOf_false {p : Prop} (h : ¬ p) : boolOf p = false := by simp [boolOf, h]
theorem r1Valid_any (t : Int) (w : World) : Calls Tryd.prog 22 #[.int .i64 t] w fun e w' => e = .returned (.bool (boolOf (validT t))) ∧ w = w' := by
  by_cases h0 : 0 ≤ t
  · by_cases h1 : t ≤ 4611686018427387903
    · rw [boolOf_true ⟨h0, h1⟩]
      go_enter Tryd.func22, Tryd.ntmps22
      go_wp2
      go_ret
      exact ⟨rfl, rfl⟩
    · rw [boolOf_false (fun e => h1 e.2)]
      go_enter Tryd.func22, Tryd.ntmps22
      go_wp2
      go_ret
      exact ⟨rfl, rfl⟩
  · rw [boolOf_false (fun e => h0 e.1)]
    go_enter Tryd.func22, Tryd.ntmps22
    go_wp2
    go_ret
    exact ⟨rfl, rfl⟩
/-- The box of a model that a call lays for itself. -/
def MdBox (w : World) (B : Nat) (v : Mv) (M : Md) : Prop := w.heap[B]? = some (.cells (v.cells M) 27 (0, 0)) ∧ Mds w v M
section
variable {w w' : World} {B : Nat} {v : Mv} {M : Md}
theorem MdBox.below (h : MdBox w B v M) (hb : Below w.heap.size w w') : MdBox w' B v M := ⟨(hb.block B (Array.getElem?_eq_some_iff.1 h.1).1).trans h.1, h.2.below hb⟩
theorem MdBox.lt (h : MdBox w B v M) : B < w.heap.size := (Array.getElem?_eq_some_iff.1 h.1).1
theorem MdBox.c0 (h : MdBox w B v M) : w.cell? ⟨B, 0, none⟩ = some (.slice v.pa v.pl v.pc) := cell_of_block h.1 rfl
theorem MdBox.c1 (h : MdBox w B v M) : w.cell? ⟨B, 1, none⟩ = some (.slice v.la v.ll v.lc) := cell_of_block h.1 rfl
theorem MdBox.c2 (h : MdBox w B v M) : w.cell? ⟨B, 2, none⟩ = some (.slice v.sa v.sl v.sc) := cell_of_block h.1 rfl
theorem MdBox.c3 (h : MdBox w B v M) : w.cell? ⟨B, 3, none⟩ = some (.int .u64 M.seed) := cell_of_block h.1 rfl
theorem MdBox.c4 (h : MdBox w B v M) : w.cell? ⟨B, 4, none⟩ = some (.int .i64 M.last) := cell_of_block h.1 rfl
theorem MdBox.c5 (h : MdBox w B v M) : w.cell? ⟨B, 5, none⟩ = some (.int .i64 M.bud) := cell_of_block h.1 rfl
theorem Mds.box (h : Mds w v M) : MdBox (w.alloc (.cells (v.cells M) 27)) w.heap.size v M := ⟨heap_alloc_new w _, h.below ((Below.refl _ w).alloc (Nat.le_refl _) _)⟩
/-- Link i of a model. -/
theorem Lks.get {a : Option Addr} {len cap : Nat} {ls : List Lk} (h : Lks w a len cap ls) {i : Nat} (hi : i < len) : ∃ b off, a = some ⟨b, off, none⟩ ∧ LkAt w b (off + i * 4) (ls.getD i default) := by
  rcases h.2.2.2 with h0 | ⟨b, off, ha, hm⟩
  · omega
  · exact ⟨b, off, ha, hm i hi⟩
theorem Stts.get {a : Option Addr} {len cap : Nat} {ls : List Stt} (h : Stts w a len cap ls) {i : Nat} (hi : i < len) : ∃ b off, a = some ⟨b, off, none⟩ ∧ SttAt w b (off + i * 3) (ls.getD i default) := by
  rcases h.2.2.2 with h0 | ⟨b, off, ha, hm⟩
  · omega
  · exact ⟨b, off, ha, hm i hi⟩
theorem Prs.get {a : Option Addr} {len cap : Nat} {ps : List (List I)} (h : Prs w a len cap ps) {i : Nat} (hi : i < len) : ∃ b off a' l' c', a = some ⟨b, off, none⟩ ∧ PrAt w b (off + i) a' l' c' (ps.getD i []) := by
  rcases h.2.2.2 with h0 | ⟨b, off, ha, hm⟩
  · omega
  · obtain ⟨a', l', c', h⟩ := hm i hi
    exact ⟨b, off, a', l', c', ha, h⟩
end
/-- The first i links are right. -/
def lksUpto (M : Md) (i : Nat) : Prop := ∀ j, j < i → lkMay M.progs.length (M.links.getD j default) ∧ ∀ k, k < j → ¬ ((M.links.getD k default).src = (M.links.getD j default).src ∧ (M.links.getD k default).dst = (M.links.getD j default).dst)
set_option maxHeartbeats 8000000 in
set_option maxRecDepth 100000 in
theorem r13links_any {w : World} {v : Mv} {M : Md} (h : Mds w v M) : Calls Tryd.prog 24 #[v.val M] w fun e w' => e = .returned (.bool (boolOf (okLinks M))) ∧ Hid (Below w.heap.size w w') := by
  have mixed := mixed
  have hbx := Lib.hid h.box
  have hbW : Hid (Below w.heap.size w (w.alloc (.cells (v.cells M) 27))) := (Below.refl _ w).alloc (Nat.le_refl _) _
  have hpl : Hid (M.progs.length = v.pl) := h.1.1
  have hll : Hid (M.links.length = v.ll) := h.2.1.1
  have hmx : v.ll ≤ 9223372036854775807 ∧ v.pl ≤ 9223372036854775807 := by have := h.2.1.2.1; have := h.2.1.2.2.1; have := h.1.2.1; have := h.1.2.2.1; unfold maxLen at *; omega
  obtain ⟨hmx, hmp⟩ := hmx
  clear h
  generalize hq0 : boolOf (okLinks M) = q0
  have hq' := Lib.hid hq0
  clear hq0
  have hno0 : Hid (¬ okLinks M) → q0 = false := fun hn => by rw [← hq'.out]; exact boolOf_false hn.out
  have hyes0 : Hid (okLinks M) → q0 = true := fun hn => by rw [← hq'.out]; exact boolOf_true hn.out
  have hno0' := Lib.hid hno0
  have hyes0' := Lib.hid hyes0
  clear hno0 hyes0 hq'
  simp only [Mv.val, Mv.cells] at hbx hbW ⊢
  go_enter Tryd.func24, Tryd.ntmps24
  go_upto_region 1 with fail
  generalize w.heap.size = B at hbx ⊢
  generalize w.alloc (.cells #[.slice v.pa v.pl v.pc, .slice v.la v.ll v.lc, .slice v.sa v.sl v.sc, .int .u64 M.seed, .int .i64 M.last, .int .i64 M.bud] 27) = W at *
  have c0 := hbx.out.c0
  have c1 := hbx.out.c1
  by_cases hlong : 1024 < v.ll
  · have hz : (1024 : Int) < (v.ll : Int) := by omega
    obtain rfl := hno0'.out (Lib.hid fun e => by have := e.1; have := hll.out; omega)
    clear hno0' hyes0'
    go_wp2
    go_ret
    exact ⟨rfl, hbW⟩
  · have hz : ¬ (1024 : Int) < (v.ll : Int) := by omega
    go_wp2
    clear c0 c1
    go_loopw [4] (fun s4 wr => ∃ i : Nat, i ≤ v.ll ∧ s4 = .int .i64 i ∧ Hid (Below W.heap.size W wr) ∧ Hid (lksUpto M i)) (fun s4 _ => v.ll - (intOf s4).toNat)
    case atStart => exact ⟨0, Nat.zero_le _, rfl, Below.refl _ _, Lib.hid (fun j hj => by omega)⟩
    case round =>
      obtain ⟨i, hil, rfl, hbr, hup⟩ := hrel
      have hbx2 := Lib.hid (hbx.out.below hbr.out)
      have c1 := hbx2.out.c1
      by_cases hi : i < v.ll
      · have hiz : (i : Int) < (v.ll : Int) := by omega
        have hi' := Lib.hid hi
        obtain ⟨b, off, hla, hlk⟩ := hbx2.out.2.2.1.get hi
        have hlk0 := Lib.hid hlk
        rw [hla] at c1
        have hli : Hid (M.links.getD i default = M.links.getD i default) := Lib.hid rfl
        obtain ⟨l, hl⟩ : ∃ l, Hid (M.links.getD i default = l) := ⟨_, Lib.hid rfl⟩
        rw [hl.out] at hlk
        obtain ⟨hbl, x0, x1, x2, x3⟩ := hlk
        obtain ⟨src, dst, look, loose⟩ := l
        dsimp only at x0 x1 x2 x3
        clear hi
        go_upto_region 8 with fail
        have hbox := Lib.hid (heap_alloc_new wr (.cells #[.int .i64 src, .int .i64 dst, .int .i64 look, .bool loose] 43))
        have hb1 : Hid (Below W.heap.size W (wr.alloc (.cells #[.int .i64 src, .int .i64 dst, .int .i64 look, .bool loose] 43))) := hbr.out.alloc hbr.out.size _
        generalize wr.heap.size = Bl at *
        generalize wr.alloc (.cells #[.int .i64 src, .int .i64 dst, .int .i64 look, .bool loose] 43) = W1 at *
        clear x0 x1 x2 x3 c1
        have y0 := cell_of_block (o := 0) hbox.out rfl
        have y1 := cell_of_block (o := 1) hbox.out rfl
        have y2 := cell_of_block (o := 2) hbox.out rfl
        have hbad : ¬ lkMay v.pl ⟨src, dst, look, loose⟩ → Hid (¬ okLinks M) := fun hn => Lib.hid (fun ho => hn (by
          have h2 := (ho.2 i (by rw [hll.out]; exact hi'.out)).1
          rw [hpl.out, hl.out] at h2
          exact h2))
        have hfin : Hid (Below w.heap.size w W1) := hbW.out.trans (hb1.out.mono hbW.out.size)
        by_cases g1 : src < 0
        · obtain rfl := hno0'.out (hbad (fun hm => by have := hm.1.1; dsimp only at this; omega))
          clear hbad hno0' hyes0'
          go_wp2
          go_ret
          exact ⟨rfl, hfin⟩
        by_cases g2 : (v.pl : Int) ≤ src
        · obtain rfl := hno0'.out (hbad (fun hm => by have := hm.1.2; dsimp only at this; omega))
          clear hbad hno0' hyes0'
          go_wp2
          go_ret
          exact ⟨rfl, hfin⟩
        by_cases g3 : dst < 0
        · obtain rfl := hno0'.out (hbad (fun hm => by have := hm.2.1.1; dsimp only at this; omega))
          clear hbad hno0' hyes0'
          go_wp2
          go_ret
          exact ⟨rfl, hfin⟩
        by_cases g4 : (v.pl : Int) ≤ dst
        · obtain rfl := hno0'.out (hbad (fun hm => by have := hm.2.1.2; dsimp only at this; omega))
          clear hbad hno0' hyes0'
          go_wp2
          go_ret
          exact ⟨rfl, hfin⟩
        by_cases g5 : look < 1
        · obtain rfl := hno0'.out (hbad (fun hm => by have := hm.2.2.1; dsimp only at this; omega))
          clear hbad hno0' hyes0'
          go_wp2
          go_ret
          exact ⟨rfl, hfin⟩
        by_cases g6 : 4611686018427387903 < look
        · obtain rfl := hno0'.out (hbad (fun hm => by have := hm.2.2.2; dsimp only at this; omega))
          clear hbad hno0' hyes0'
          go_wp2
          go_ret
          exact ⟨rfl, hfin⟩
        have hmay : Hid (lkMay v.pl ⟨src, dst, look, loose⟩) := Lib.hid ⟨⟨by dsimp only; omega, by dsimp only; omega⟩, ⟨by dsimp only; omega, by dsimp only; omega⟩, by dsimp only; omega, by dsimp only; omega⟩
        clear hbad hfin
        have hwi : IntKind.i64.wrap ((i : Int) + 1) = (i : Int) + 1 := IntWalk.i64_in _ (by omega)
        go_wp2
        clear g1 g2 g3 g4 g5 g6 y0 y1 y2
        go_loopw [6] (fun s6 wr => ∃ k : Nat, k ≤ i ∧ s6 = .int .i64 k ∧ Hid (Below W1.heap.size W1 wr) ∧ Hid (∀ j, j < k → ¬ ((M.links.getD j default).src = src ∧ (M.links.getD j default).dst = dst))) (fun s6 _ => i - (intOf s6).toNat)
        case atStart => exact ⟨0, Nat.zero_le _, rfl, Below.refl _ _, Lib.hid (fun j hj => by omega)⟩
        case round =>
          obtain ⟨k, hki, rfl, hbk, hno⟩ := hrel
          by_cases hk : k < i
          · have hkz : (k : Int) < (i : Int) := by omega
            have hkl : (k : Int) < (v.ll : Int) := by omega
            have hk' := Lib.hid hk
            have hwk : IntKind.i64.wrap ((k : Int) + 1) = (k : Int) + 1 := IntWalk.i64_in _ (by omega)
            have hbx3 := Lib.hid (hbx.out.below (hb1.out.trans (hbk.out.mono hb1.out.size)))
            obtain ⟨b2, off2, hla2, hlk2⟩ := hbx3.out.2.2.1.get (i := k) (by omega)
            have hbox3 := Lib.hid ((hbk.out.block _ (Array.getElem?_eq_some_iff.1 hbox.out).1).trans hbox.out)
            have hll2 : Hid (∀ z, MdBox (wide wr z) B v M) := Lib.hid (fun z => hbx3.out.below (wide_below wr z))
            have e1 : ∀ z, (wide wr z).cell? ⟨B, 1, none⟩ = some (.slice (some ⟨b2, off2, none⟩) v.ll v.lc) := fun z => by rw [← hla2]; exact (hll2.out z).c1
            obtain ⟨l2, hl2⟩ : ∃ l2, Hid (M.links.getD k default = l2) := ⟨_, Lib.hid rfl⟩
            rw [hl2.out] at hlk2
            obtain ⟨hbl2, u0, u1, u2, u3⟩ := hlk2
            obtain ⟨src2, dst2, look2, loose2⟩ := l2
            dsimp only at u0 u1 u2 u3
            have e2 : ∀ z, (wide wr z).cell? ⟨b2, off2 + k * 4, none⟩ = some (.int .i64 src2) := fun z => wide_cell z hbl2 u0
            have e3 : ∀ z, (wide wr z).cell? ⟨b2, off2 + k * 4 + 1, none⟩ = some (.int .i64 dst2) := fun z => wide_cell z hbl2 u1
            have e4 : ∀ z, (wide wr z).cell? ⟨Bl, 0, none⟩ = some (.int .i64 src) := fun z => wide_cell z (Array.getElem?_eq_some_iff.1 hbox3.out).1 (cell_of_block hbox3.out rfl)
            have e5 : ∀ z, (wide wr z).cell? ⟨Bl, 1, none⟩ = some (.int .i64 dst) := fun z => wide_cell z (Array.getElem?_eq_some_iff.1 hbox3.out).1 (cell_of_block hbox3.out rfl)
            clear u0 u1 u2 u3 hla2 hk
            go_upto_region 13 with fail
            by_cases hs : src2 = src
            · subst hs
              by_cases hd : dst2 = dst
              · subst hd
                have hq : Hid (¬ okLinks M) := Lib.hid (fun ho => by
                  have h2 := (ho.2 i (by rw [hll.out]; exact hi'.out)).2 k hk'.out
                  rw [hl.out, hl2.out] at h2
                  exact h2 ⟨rfl, rfl⟩)
                obtain rfl := hno0'.out hq
                clear hno0' hyes0'
                refine wp_region_wide (by kernel_rfl) (by kernel_rfl) ?_
                repeat (first | go_big_quiet_step (fail) | quiet_step (fail))
                refine wpQuiet_nil ?_
                refine wide_all fun W3 hb3 => ?_
                clear e1 e2 e3 e4 e5
                have hb4 : Hid (Below w.heap.size w W3) := by
                  have h1 := hbW.out.trans (hb1.out.mono hbW.out.size)
                  have h2 := h1.trans (hbk.out.mono h1.size)
                  exact h2.trans (hb3.mono h2.size)
                clear hb3
                go_wp2
                go_ret
                exact ⟨rfl, hb4⟩
              · have hd2 : (dst2 == dst) = false := by simp [hd]
                have hno2 : Hid (∀ j, j < k + 1 → ¬ ((M.links.getD j default).src = src2 ∧ (M.links.getD j default).dst = dst)) := Lib.hid (fun j hj => by
                  by_cases e : j = k
                  · subst e; rw [hl2.out]; exact fun hh => hd hh.2
                  · exact hno.out j (by omega))
                refine wp_region_wide (by kernel_rfl) (by kernel_rfl) ?_
                repeat (first | go_big_quiet_step (fail) | quiet_step (fail))
                refine wpQuiet_nil ?_
                refine wide_all fun W3 hb3 => ?_
                have hb4 : Hid (Below W1.heap.size W1 W3) := hbk.out.trans (hb3.mono hbk.out.size)
                clear e1 e2 e3 e4 e5 hb3 hd hd2
                go_wp2
                go_roundw
                case rel => (repeat apply Exists.intro); first | exact ⟨⟨hk'.out, by go_num, hb4, hno2⟩, rfl⟩ | exact ⟨hk'.out, by go_num, hb4, hno2⟩
                case measure => have := hk'.out; simp [intOf]; omega
            · have hs2 : (src2 == src) = false := by simp [hs]
              have hno2 : Hid (∀ j, j < k + 1 → ¬ ((M.links.getD j default).src = src ∧ (M.links.getD j default).dst = dst)) := Lib.hid (fun j hj => by
                by_cases e : j = k
                · subst e; rw [hl2.out]; exact fun hh => hs hh.1
                · exact hno.out j (by omega))
              refine wp_region_wide (by kernel_rfl) (by kernel_rfl) ?_
              repeat (first | go_big_quiet_step (fail) | quiet_step (fail))
              refine wpQuiet_nil ?_
              refine wide_all fun W3 hb3 => ?_
              have hb4 : Hid (Below W1.heap.size W1 W3) := hbk.out.trans (hb3.mono hbk.out.size)
              clear e1 e2 e3 e4 e5 hb3 hs hs2
              go_wp2
              go_roundw
              case rel => (repeat apply Exists.intro); first | exact ⟨⟨hk'.out, by go_num, hb4, hno2⟩, rfl⟩ | exact ⟨hk'.out, by go_num, hb4, hno2⟩
              case measure => have := hk'.out; simp [intOf]; omega
          · obtain rfl : k = i := by omega
            have hkz : ¬ (k : Int) < (k : Int) := by omega
            have hup2 : Hid (lksUpto M (k + 1)) := Lib.hid (fun j hj => by
              by_cases e : j = k
              · subst e
                rw [hl.out, hpl.out]
                exact ⟨hmay.out, fun m hm => hno.out m hm⟩
              · exact hup.out j (by omega))
            have hb5 : Hid (Below W.heap.size W wr) := hb1.out.trans (hbk.out.mono hb1.out.size)
            clear hk
            go_wp2
            go_roundw
            case rel => (repeat apply Exists.intro); first | exact ⟨hi'.out, by go_num, hup2⟩ | exact ⟨hi'.out, by go_num, hb5, hup2⟩
            case measure => have := hi'.out; simp [intOf]; omega
      · obtain rfl : i = v.ll := by omega
        have hiz : ¬ (v.ll : Int) < (v.ll : Int) := by omega
        have hok : Hid (okLinks M) := Lib.hid ⟨by rw [hll.out]; omega, fun j hj => hup.out j (by rw [hll.out] at hj; exact hj)⟩
        have hb5 : Hid (Below w.heap.size w wr) := hbW.out.trans (hbr.out.mono hbW.out.size)
        obtain rfl := hyes0'.out hok
        clear hi hno0' hyes0'
        go_wp2
        go_ret
        exact ⟨rfl, hb5⟩
end Go.Proofs.YtofkfajcibdneaaDoor
