/-
  The law of a process's links (tools/genmap.py).
-/
import Derived.Test.YtofkfajcibdneaaDoorNS
namespace Go.Proofs.YtofkfajcibdneaaDoor
open Go.ChangeShapes Go.WideShapes Go.ChangeAt Go.Shelf Go.RowKit Go.Lib Go.Sort Go.Deep
set_option linter.unusedVariables false
set_option linter.unusedSimpArgs false
set_option maxRecDepth 4000

theorem waysU_mem {f : Lk → Int} {ls : List Lk} {n : Int} {i k : Nat} (h : k < (waysU f ls n i).length) : (waysU f ls n i).getD k 0 < i ∧ f (ls.getD ((waysU f ls n i).getD k 0) default) = n := by
  have hm : (waysU f ls n i).getD k 0 ∈ waysU f ls n i := by
    rw [List.getD_eq_getElem?_getD, List.getElem?_eq_getElem h]
    exact List.getElem_mem h
  generalize (waysU f ls n i).getD k 0 = z at hm
  simp only [waysU, List.mem_filter, List.mem_range, decide_eq_true_eq] at hm
  exact hm
theorem waysU_up {f : Lk → Int} {ls : List Lk} {n : Int} {i k : Nat} (h : k + 1 < (waysU f ls n i).length) : (waysU f ls n i).getD k 0 < (waysU f ls n i).getD (k + 1) 0 := by
  have hp : List.Pairwise (· < ·) (waysU f ls n i) := List.Pairwise.filter _ List.pairwise_lt_range
  rw [List.getD_eq_getElem?_getD, List.getD_eq_getElem?_getD, List.getElem?_eq_getElem h, List.getElem?_eq_getElem (Nat.lt_of_succ_lt h)]
  exact List.pairwise_iff_getElem.1 hp k (k + 1) (Nat.lt_of_succ_lt h) h (Nat.lt_succ_self k)
/-- How many ends of the first i links are there. -/
def ends (M : Md) (n : Int) (i : Nat) : Nat := (waysU (·.src) M.links n i).length + (waysU (·.dst) M.links n i).length
theorem ends_step (M : Md) (n : Int) (i : Nat) : ends M n (i + 1) = ends M n i + (if (M.links.getD i default).src = n then 1 else 0) + (if (M.links.getD i default).dst = n then 1 else 0) := by
  unfold ends
  by_cases h1 : (M.links.getD i default).src = n <;> by_cases h2 : (M.links.getD i default).dst = n
  · rw [waysU_yes (f := (·.src)) h1, waysU_yes (f := (·.dst)) h2, if_pos h1, if_pos h2, List.length_append, List.length_append]; simp; omega
  · rw [waysU_yes (f := (·.src)) h1, waysU_no (f := (·.dst)) h2, if_pos h1, if_neg h2, List.length_append]; simp; omega
  · rw [waysU_no (f := (·.src)) h1, waysU_yes (f := (·.dst)) h2, if_neg h1, if_pos h2, List.length_append]; simp; omega
  · rw [waysU_no (f := (·.src)) h1, waysU_no (f := (·.dst)) h2, if_neg h1, if_neg h2]; rfl
theorem ends_le (M : Md) (n : Int) (i : Nat) : ends M n i ≤ 2 * i := by
  have h1 := waysU_len (·.src) M.links n i
  have h2 := waysU_len (·.dst) M.links n i
  unfold ends
  omega
set_option maxHeartbeats 8000000 in
set_option maxRecDepth 100000 in
theorem lawModelApart {w : World} {v : Mv} {M : Md} (h : Mds w v M) (hL : Laid13 w) (n : Int) (hbig : v.ll ≤ 17592186044416) : Calls Tryd.prog 8 #[v.val M, .int .i64 n] w fun e w' => e = .returned (.bool true) ∧ Below w.heap.size w w' := by
  have mixed := mixed
  have hb1 : Hid (Below w.heap.size w (w.alloc (.cells (v.cells M) 27))) := (Below.refl _ w).alloc (Nat.le_refl _) _
  have hbx := Lib.hid h.box
  have hL1 := Lib.hid (hL.below hb1.out)
  have hll : Hid (M.links.length = v.ll) := h.2.1.1
  have hbig' := Lib.hid hbig
  clear h hL
  simp only [Mv.val, Mv.cells] at hb1 hbx hL1 ⊢
  go_enter Tryd.func8, Tryd.ntmps8
  go_upto_region 1 with fail
  generalize w.heap.size = B at hbx ⊢
  generalize w.alloc (.cells #[.slice v.pa v.pl v.pc, .slice v.la v.ll v.lc, .slice v.sa v.sl v.sc, .int .u64 M.seed, .int .i64 M.last, .int .i64 M.bud] 27) = W at *
  have d0 := hbx.out.c0
  have d1 := hbx.out.c1
  have d2 := hbx.out.c2
  have d3 := hbx.out.c3
  have d4 := hbx.out.c4
  have d5 := hbx.out.c5
  have k1 := Lib.hid (mdWays_any hbx.out.2 n hbig'.out)
  simp only [Mv.val, Mv.cells] at k1
  go_upto_region 2 with (go_at_call 17; refine k1.out.mono ?_; rintro e w2 ⟨u1, rfl, hr1⟩)
  have hbx2 := Lib.hid (hbx.out.below hr1.out.1)
  clear d0 d1 d2 d3 d4 d5 k1
  have d0 := hbx2.out.c0
  have d1 := hbx2.out.c1
  have d2 := hbx2.out.c2
  have d3 := hbx2.out.c3
  have d4 := hbx2.out.c4
  have d5 := hbx2.out.c5
  have k2 := Lib.hid (mdInto_any hbx2.out.2 n hbig'.out)
  simp only [Mv.val, Mv.cells] at k2
  go_upto_region 3 with (go_at_call 18; refine k2.out.mono ?_; rintro e w3 ⟨u2, rfl, hr2⟩)
  have hbx3 := Lib.hid (hbx2.out.below hr2.out.1)
  have hL3 : Hid (Laid13 w3) := (hL1.out.below hr1.out.1).below hr2.out.1
  have hb3 : Hid (Below w.heap.size w w3) := by
    have h1 := hb1.out.trans (hr1.out.1.mono hb1.out.size)
    exact h1.trans (hr2.out.1.mono h1.size)
  have hw1 : Hid (∀ k, k < (waysU (·.src) M.links n M.links.length).length → (waysU (·.src) M.links n M.links.length).getD k 0 < v.ll ∧ (M.links.getD ((waysU (·.src) M.links n M.links.length).getD k 0) default).src = n) := Lib.hid (fun k hk => by rw [← hll.out]; exact waysU_mem (f := (·.src)) hk)
  have hw2 : Hid (∀ k, k < (waysU (·.dst) M.links n M.links.length).length → (waysU (·.dst) M.links n M.links.length).getD k 0 < v.ll ∧ (M.links.getD ((waysU (·.dst) M.links n M.links.length).getD k 0) default).dst = n) := Lib.hid (fun k hk => by rw [← hll.out]; exact waysU_mem (f := (·.dst)) hk)
  have hp1 : Hid (∀ k, k + 1 < (waysU (·.src) M.links n M.links.length).length → (waysU (·.src) M.links n M.links.length).getD k 0 < (waysU (·.src) M.links n M.links.length).getD (k + 1) 0) := Lib.hid (fun k hk => waysU_up hk)
  have hp2 : Hid (∀ k, k + 1 < (waysU (·.dst) M.links n M.links.length).length → (waysU (·.dst) M.links n M.links.length).getD k 0 < (waysU (·.dst) M.links n M.links.length).getD (k + 1) 0) := Lib.hid (fun k hk => waysU_up hk)
  have hen : Hid (ends M n v.ll = (waysU (·.src) M.links n M.links.length).length + (waysU (·.dst) M.links n M.links.length).length) := by rw [← hll.out]; exact Lib.hid rfl
  have hx1 : Hid ((waysU (·.src) M.links n M.links.length).length ≤ 17592186044416) := Lib.hid (Nat.le_trans (waysU_len _ _ _ _) (by rw [hll.out]; exact hbig))
  have hx2 : Hid ((waysU (·.dst) M.links n M.links.length).length ≤ 17592186044416) := Lib.hid (Nat.le_trans (waysU_len _ _ _ _) (by rw [hll.out]; exact hbig))
  have hq1 := Lib.hid (hr1.out.2.1.kept (S := fun _ => False) (.of_below hr2.out.1) (fun _ _ e => e))
  have hq2 := Lib.hid hr2.out.2.1
  clear d0 d1 d2 d3 d4 d5 k2 hbx hbx2 hL1 hb1 hr1 hr2
  generalize waysU (·.src) M.links n M.links.length = l1 at *
  generalize waysU (·.dst) M.links n M.links.length = l2 at *
  obtain ⟨L1, hn1⟩ : ∃ L, Hid (l1.length = L) := ⟨_, Lib.hid rfl⟩
  obtain ⟨L2, hn2⟩ : ∃ L, Hid (l2.length = L) := ⟨_, Lib.hid rfl⟩
  rw [hn1.out] at hw1 hp1 hen hx1 hq1
  rw [hn2.out] at hw2 hp2 hen hx2 hq2
  obtain ⟨a1, c1, hs1, -⟩ := hq1.out.shape
  obtain ⟨a2, c2, hs2, -⟩ := hq2.out.shape
  subst hs1 hs2
  clear hbig
  go_wp2
  go_loopw [7] (fun s5 wr => ∃ i : Nat, i ≤ L1 ∧ s5 = .int .i64 i ∧ Hid (Below w3.heap.size w3 wr)) (fun s5 _ => L1 - (intOf s5).toNat)
  case atStart => exact ⟨0, Nat.zero_le _, rfl, Below.refl _ _⟩
  case round =>
    obtain ⟨i, hil, rfl, hbr⟩ := hrel
    by_cases hi : i < L1
    · have hiz : (i : Int) < (L1 : Int) := by omega
      have hi' := Lib.hid hi
      have hmx : L1 ≤ 17592186044416 := hx1.out
      have hwi : IntKind.i64.wrap ((i : Int) + 1) = (i : Int) + 1 := IntWalk.i64_in _ (by omega)
      obtain ⟨g, o, cp, hu, hR⟩ := hq1.out.form (by omega)
      simp only [Value.slice.injEq, true_and] at hu
      obtain ⟨rfl, rfl⟩ := hu
      have hgc : Hid (∀ w' j, Below wr.heap.size wr w' → j < L1 → w'.cell? ⟨g, o + j, none⟩ = some (.int .i64 (l1.getD j 0 : Nat))) := Lib.hid (fun w' j h hj => (hR.kept (S := fun _ => False) (.of_below (hbr.out.trans (h.mono hbr.out.size))) (fun e => e)).cell (nats_get (by rw [hn1.out]; exact hj)))
      have hm := Lib.hid ((hw1.out i hi).1)
      have hsr := Lib.hid ((hw1.out i hi).2)
      obtain ⟨b, off, hla, hlk1⟩ := (hbx3.out.below hbr.out).2.2.1.get hm.out
      have hlc : Hid (∀ w', Below wr.heap.size wr w' → w'.cell? ⟨B, 1, none⟩ = some (.slice (some ⟨b, off, none⟩) v.ll v.lc) ∧ w'.cell? ⟨b, off + (l1.getD i 0) * 4, none⟩ = some (.int .i64 n)) := Lib.hid (fun w' h => ⟨by rw [← hla]; exact ((hbx3.out.below hbr.out).below h).c1, by rw [← hsr.out]; exact (hlk1.below h).2.1⟩)
      have hbd : Hid (Below w3.heap.size w3 wr.drew) := hbr.out.drew
      have hyl : l1.getD i 0 < v.ll := hm.out
      rcases Nat.eq_zero_or_pos i with h0 | h0
      · subst h0
        have hlk : Hid (∀ w', Below wr.heap.size wr w' → w'.cell? ⟨B, 1, none⟩ = some (.slice (some ⟨b, off, none⟩) v.ll v.lc) ∧ w'.cell? ⟨b, off + (l1.getD 0 0) * 4, none⟩ = some (.int .i64 n) ∧ w'.cell? ⟨g, o, none⟩ = some (.int .i64 (l1.getD 0 0 : Nat))) := Lib.hid (fun w' h => ⟨(hlc.out w' h).1, (hlc.out w' h).2, hgc.out w' 0 h hi'.out⟩)
        generalize l1.getD 0 0 = y at hlk hyl
        have hyz : (y : Int) < (v.ll : Int) := by omega
        have hyz2 : ¬ (v.ll : Int) ≤ (y : Int) := by omega
        have hyn : ¬ v.ll ≤ y := by omega
        clear hgc hm hsr hlk1 hlc hR hla hi hbr
        go_upto_region 6 with fail
        refine wp_region_held_drew (S := fun w' => Below wr.heap.size wr w') (by kernel_rfl) ((Below.refl _ wr).drew) (fun hHeld => ?_)
        clear hHeld
        have hHd : Below wr.heap.size wr wr.drew := (Below.refl _ wr).drew
        refine wpAnyH_take (i := 0) (oi := { dst := some 23, op := Op.move (Operand.tmp 7), type := 3, pos := "law.go:132", after := #[], guard := none }) (v := ?vv0_70) rfl (by kernel_rfl) (by kernel_rfl) (by kernel_rfl) (fun _ _ _ h => h) (Or.inl ⟨by rfl, ?hy0_70⟩) hHd ?rest0_70
        case hy0_70 =>
          intro w hSw
          go_simp
          try with_reducible rfl
        try simp only [Act.put, List.setIfInBounds_toArray, List.set_cons_zero, List.set_cons_succ]
        refine wpAnyH_take (i := 1) (oi := { dst := some 24, op := Op.binOp BinOp.gtr 3 (Operand.tmp 23) (Operand.const (Value.int IntKind.i64 0)) 3, type := 4, pos := "law.go:132", after := #[{ on := 0, ground := Ground.data }], guard := none }) (v := .bool false) rfl (by kernel_rfl) (by kernel_rfl) (by kernel_rfl) (fun _ _ _ h => h) (Or.inl ⟨by rfl, fun w hSw => by first | (go_simp; done) | (go_simp; simp only [decide_eq_false_iff_not, beq_iff_eq, bne_self_eq_false]; omega) | (go_simp; simp [*]; done) | (go_simp; omega)⟩) hHd ?_
        try simp only [Act.put, List.setIfInBounds_toArray, List.set_cons_zero, List.set_cons_succ]
        refine wpAnyH_take (i := 2) (oi := { dst := some 25, op := Op.move (Operand.tmp 24), type := 4, pos := "law.go:132", after := #[{ on := 1, ground := Ground.data }], guard := none }) (v := ?vv2_71) rfl (by kernel_rfl) (by kernel_rfl) (by kernel_rfl) (fun _ _ _ h => h) (Or.inl ⟨by rfl, ?hy2_71⟩) hHd ?rest2_71
        case hy2_71 =>
          intro w hSw
          go_simp
          try with_reducible rfl
        try simp only [Act.put, List.setIfInBounds_toArray, List.set_cons_zero, List.set_cons_succ]
        refine wpAnyH_take (i := 3) (oi := { dst := some 26, op := Op.move (Operand.tmp 5), type := 52, pos := "law.go:132", after := #[{ on := 2, ground := Ground.guard }], guard := some (2, true) }) (v := undef) rfl (by kernel_rfl) (by kernel_rfl) (by kernel_rfl) (fun _ _ _ h => h) (Or.inr ⟨by rfl, rfl⟩) hHd ?_
        try simp only [Act.put, List.setIfInBounds_toArray, List.set_cons_zero, List.set_cons_succ]
        refine wpAnyH_take (i := 4) (oi := { dst := some 27, op := Op.move (Operand.tmp 7), type := 3, pos := "law.go:132", after := #[{ on := 2, ground := Ground.guard }], guard := some (2, true) }) (v := undef) rfl (by kernel_rfl) (by kernel_rfl) (by kernel_rfl) (fun _ _ _ h => h) (Or.inr ⟨by rfl, rfl⟩) hHd ?_
        try simp only [Act.put, List.setIfInBounds_toArray, List.set_cons_zero, List.set_cons_succ]
        refine wpAnyH_take (i := 5) (oi := { dst := some 28, op := Op.binOp BinOp.sub 3 (Operand.tmp 27) (Operand.const (Value.int IntKind.i64 1)) 3, type := 3, pos := "law.go:132", after := #[{ on := 4, ground := Ground.data }, { on := 2, ground := Ground.guard }], guard := some (2, true) }) (v := undef) rfl (by kernel_rfl) (by kernel_rfl) (by kernel_rfl) (fun _ _ _ h => h) (Or.inr ⟨by rfl, rfl⟩) hHd ?_
        try simp only [Act.put, List.setIfInBounds_toArray, List.set_cons_zero, List.set_cons_succ]
        refine wpAnyH_take (i := 6) (oi := { dst := some 29, op := Op.indexAddr 52 (Operand.tmp 26) (Operand.tmp 28), type := 0, pos := "law.go:132", after := #[{ on := 3, ground := Ground.data }, { on := 5, ground := Ground.data }, { on := 2, ground := Ground.guard }], guard := some (2, true) }) (v := undef) rfl (by kernel_rfl) (by kernel_rfl) (by kernel_rfl) (fun _ _ _ h => h) (Or.inr ⟨by rfl, rfl⟩) hHd ?_
        try simp only [Act.put, List.setIfInBounds_toArray, List.set_cons_zero, List.set_cons_succ]
        refine wpAnyH_take (i := 7) (oi := { dst := some 30, op := Op.load 3 (Operand.tmp 29), type := 3, pos := "law.go:132", after := #[{ on := 6, ground := Ground.data }, { on := 2, ground := Ground.guard }], guard := some (2, true) }) (v := undef) rfl (by kernel_rfl) (by kernel_rfl) (by kernel_rfl) (fun _ _ _ h => h) (Or.inr ⟨by rfl, rfl⟩) hHd ?_
        try simp only [Act.put, List.setIfInBounds_toArray, List.set_cons_zero, List.set_cons_succ]
        refine wpAnyH_take (i := 8) (oi := { dst := some 31, op := Op.move (Operand.tmp 5), type := 52, pos := "law.go:132", after := #[{ on := 2, ground := Ground.guard }], guard := some (2, true) }) (v := undef) rfl (by kernel_rfl) (by kernel_rfl) (by kernel_rfl) (fun _ _ _ h => h) (Or.inr ⟨by rfl, rfl⟩) hHd ?_
        try simp only [Act.put, List.setIfInBounds_toArray, List.set_cons_zero, List.set_cons_succ]
        refine wpAnyH_take (i := 9) (oi := { dst := some 32, op := Op.move (Operand.tmp 7), type := 3, pos := "law.go:132", after := #[{ on := 2, ground := Ground.guard }], guard := some (2, true) }) (v := undef) rfl (by kernel_rfl) (by kernel_rfl) (by kernel_rfl) (fun _ _ _ h => h) (Or.inr ⟨by rfl, rfl⟩) hHd ?_
        try simp only [Act.put, List.setIfInBounds_toArray, List.set_cons_zero, List.set_cons_succ]
        refine wpAnyH_take (i := 10) (oi := { dst := some 33, op := Op.indexAddr 52 (Operand.tmp 31) (Operand.tmp 32), type := 0, pos := "law.go:132", after := #[{ on := 8, ground := Ground.data }, { on := 9, ground := Ground.data }, { on := 2, ground := Ground.guard }], guard := some (2, true) }) (v := undef) rfl (by kernel_rfl) (by kernel_rfl) (by kernel_rfl) (fun _ _ _ h => h) (Or.inr ⟨by rfl, rfl⟩) hHd ?_
        try simp only [Act.put, List.setIfInBounds_toArray, List.set_cons_zero, List.set_cons_succ]
        refine wpAnyH_take (i := 11) (oi := { dst := some 34, op := Op.load 3 (Operand.tmp 33), type := 3, pos := "law.go:132", after := #[{ on := 10, ground := Ground.data }, { on := 2, ground := Ground.guard }], guard := some (2, true) }) (v := undef) rfl (by kernel_rfl) (by kernel_rfl) (by kernel_rfl) (fun _ _ _ h => h) (Or.inr ⟨by rfl, rfl⟩) hHd ?_
        try simp only [Act.put, List.setIfInBounds_toArray, List.set_cons_zero, List.set_cons_succ]
        refine wpAnyH_take (i := 12) (oi := { dst := some 35, op := Op.binOp BinOp.geq 3 (Operand.tmp 30) (Operand.tmp 34) 3, type := 4, pos := "law.go:132", after := #[{ on := 7, ground := Ground.data }, { on := 11, ground := Ground.data }, { on := 2, ground := Ground.guard }], guard := some (2, true) }) (v := undef) rfl (by kernel_rfl) (by kernel_rfl) (by kernel_rfl) (fun _ _ _ h => h) (Or.inr ⟨by rfl, rfl⟩) hHd ?_
        try simp only [Act.put, List.setIfInBounds_toArray, List.set_cons_zero, List.set_cons_succ]
        refine wpAnyH_take (i := 13) (oi := { dst := some 36, op := Op.pick (Operand.tmp 25) (Operand.tmp 35) (Operand.const (Value.bool false)), type := 4, pos := "law.go:132", after := #[{ on := 2, ground := Ground.data }, { on := 12, ground := Ground.data }], guard := none }) (v := ?vv13_72) rfl (by kernel_rfl) (by kernel_rfl) (by kernel_rfl) (fun _ _ _ h => h) (Or.inl ⟨by rfl, ?hy13_72⟩) hHd ?rest13_72
        case hy13_72 =>
          intro w hSw
          go_simp
          try with_reducible rfl
        try simp only [Act.put, List.setIfInBounds_toArray, List.set_cons_zero, List.set_cons_succ]
        refine wpAnyH_take (i := 14) (oi := { dst := some 37, op := Op.move (Operand.tmp 36), type := 4, pos := "law.go:132", after := #[{ on := 13, ground := Ground.data }, { on := 2, ground := Ground.chain }], guard := none }) (v := ?vv14_73) rfl (by kernel_rfl) (by kernel_rfl) (by kernel_rfl) (fun _ _ _ h => h) (Or.inl ⟨by rfl, ?hy14_73⟩) hHd ?rest14_73
        case hy14_73 =>
          intro w hSw
          go_simp
          try with_reducible rfl
        try simp only [Act.put, List.setIfInBounds_toArray, List.set_cons_zero, List.set_cons_succ]
        refine wpAnyH_take (i := 15) (oi := { dst := some 38, op := Op.move (Operand.tmp 5), type := 52, pos := "law.go:132", after := #[{ on := 14, ground := Ground.guard }], guard := some (14, false) }) (v := ?vv15_74) rfl (by kernel_rfl) (by kernel_rfl) (by kernel_rfl) (fun _ _ _ h => h) (Or.inl ⟨by rfl, ?hy15_74⟩) hHd ?rest15_74
        case hy15_74 =>
          intro w hSw
          go_simp
          try with_reducible rfl
        try simp only [Act.put, List.setIfInBounds_toArray, List.set_cons_zero, List.set_cons_succ]
        refine wpAnyH_take (i := 16) (oi := { dst := some 39, op := Op.move (Operand.tmp 7), type := 3, pos := "law.go:132", after := #[{ on := 14, ground := Ground.guard }], guard := some (14, false) }) (v := ?vv16_75) rfl (by kernel_rfl) (by kernel_rfl) (by kernel_rfl) (fun _ _ _ h => h) (Or.inl ⟨by rfl, ?hy16_75⟩) hHd ?rest16_75
        case hy16_75 =>
          intro w hSw
          go_simp
          try with_reducible rfl
        try simp only [Act.put, List.setIfInBounds_toArray, List.set_cons_zero, List.set_cons_succ]
        refine wpAnyH_take (i := 17) (oi := { dst := some 40, op := Op.indexAddr 52 (Operand.tmp 38) (Operand.tmp 39), type := 0, pos := "law.go:132", after := #[{ on := 15, ground := Ground.data }, { on := 16, ground := Ground.data }, { on := 14, ground := Ground.guard }], guard := some (14, false) }) (v := ?vv17_76) rfl (by kernel_rfl) (by kernel_rfl) (by kernel_rfl) (fun _ _ _ h => h) (Or.inl ⟨by rfl, ?hy17_76⟩) hHd ?rest17_76
        case hy17_76 =>
          intro w hSw
          go_simp
          try with_reducible rfl
        try simp only [Act.put, List.setIfInBounds_toArray, List.set_cons_zero, List.set_cons_succ]
        refine wpAnyH_take (i := 18) (oi := { dst := some 41, op := Op.load 3 (Operand.tmp 40), type := 3, pos := "law.go:132", after := #[{ on := 17, ground := Ground.data }, { on := 14, ground := Ground.guard }], guard := some (14, false) }) (v := ?vv18_77) rfl (by kernel_rfl) (by kernel_rfl) (by kernel_rfl) (fun _ _ _ h => h) (Or.inl ⟨by rfl, ?hy18_77⟩) hHd ?rest18_77
        case hy18_77 =>
          intro w hSw
          have hQ := hlk.out w hSw
          have hQ0 := hQ.1
          have hQ1 := hQ.2.1
          have hQ2 := hQ.2.2
          go_simp
          try with_reducible rfl
        try simp only [Act.put, List.setIfInBounds_toArray, List.set_cons_zero, List.set_cons_succ]
        refine wpAnyH_take (i := 19) (oi := { dst := some 42, op := Op.binOp BinOp.lss 3 (Operand.tmp 41) (Operand.const (Value.int IntKind.i64 0)) 3, type := 4, pos := "law.go:132", after := #[{ on := 18, ground := Ground.data }, { on := 14, ground := Ground.guard }], guard := some (14, false) }) (v := .bool false) rfl (by kernel_rfl) (by kernel_rfl) (by kernel_rfl) (fun _ _ _ h => h) (Or.inl ⟨by rfl, fun w hSw => by first | (go_simp; done) | (go_simp; simp only [decide_eq_false_iff_not, beq_iff_eq, bne_self_eq_false]; omega) | (go_simp; simp [*]; done) | (go_simp; omega)⟩) hHd ?_
        try simp only [Act.put, List.setIfInBounds_toArray, List.set_cons_zero, List.set_cons_succ]
        refine wpAnyH_take (i := 20) (oi := { dst := some 43, op := Op.pick (Operand.tmp 37) (Operand.const (Value.bool true)) (Operand.tmp 42), type := 4, pos := "law.go:132", after := #[{ on := 14, ground := Ground.data }, { on := 19, ground := Ground.data }], guard := none }) (v := ?vv20_78) rfl (by kernel_rfl) (by kernel_rfl) (by kernel_rfl) (fun _ _ _ h => h) (Or.inl ⟨by rfl, ?hy20_78⟩) hHd ?rest20_78
        case hy20_78 =>
          intro w hSw
          go_simp
          try with_reducible rfl
        try simp only [Act.put, List.setIfInBounds_toArray, List.set_cons_zero, List.set_cons_succ]
        refine wpAnyH_take (i := 21) (oi := { dst := some 44, op := Op.move (Operand.tmp 43), type := 4, pos := "law.go:132", after := #[{ on := 20, ground := Ground.data }, { on := 14, ground := Ground.chain }], guard := none }) (v := ?vv21_79) rfl (by kernel_rfl) (by kernel_rfl) (by kernel_rfl) (fun _ _ _ h => h) (Or.inl ⟨by rfl, ?hy21_79⟩) hHd ?rest21_79
        case hy21_79 =>
          intro w hSw
          go_simp
          try with_reducible rfl
        try simp only [Act.put, List.setIfInBounds_toArray, List.set_cons_zero, List.set_cons_succ]
        refine wpAnyH_take (i := 22) (oi := { dst := some 45, op := Op.move (Operand.tmp 5), type := 52, pos := "law.go:132", after := #[{ on := 21, ground := Ground.guard }], guard := some (21, false) }) (v := ?vv22_80) rfl (by kernel_rfl) (by kernel_rfl) (by kernel_rfl) (fun _ _ _ h => h) (Or.inl ⟨by rfl, ?hy22_80⟩) hHd ?rest22_80
        case hy22_80 =>
          intro w hSw
          go_simp
          try with_reducible rfl
        try simp only [Act.put, List.setIfInBounds_toArray, List.set_cons_zero, List.set_cons_succ]
        refine wpAnyH_take (i := 23) (oi := { dst := some 46, op := Op.move (Operand.tmp 7), type := 3, pos := "law.go:132", after := #[{ on := 21, ground := Ground.guard }], guard := some (21, false) }) (v := ?vv23_81) rfl (by kernel_rfl) (by kernel_rfl) (by kernel_rfl) (fun _ _ _ h => h) (Or.inl ⟨by rfl, ?hy23_81⟩) hHd ?rest23_81
        case hy23_81 =>
          intro w hSw
          go_simp
          try with_reducible rfl
        try simp only [Act.put, List.setIfInBounds_toArray, List.set_cons_zero, List.set_cons_succ]
        refine wpAnyH_take (i := 24) (oi := { dst := some 47, op := Op.indexAddr 52 (Operand.tmp 45) (Operand.tmp 46), type := 0, pos := "law.go:132", after := #[{ on := 22, ground := Ground.data }, { on := 23, ground := Ground.data }, { on := 21, ground := Ground.guard }], guard := some (21, false) }) (v := ?vv24_82) rfl (by kernel_rfl) (by kernel_rfl) (by kernel_rfl) (fun _ _ _ h => h) (Or.inl ⟨by rfl, ?hy24_82⟩) hHd ?rest24_82
        case hy24_82 =>
          intro w hSw
          go_simp
          try with_reducible rfl
        try simp only [Act.put, List.setIfInBounds_toArray, List.set_cons_zero, List.set_cons_succ]
        refine wpAnyH_take (i := 25) (oi := { dst := some 48, op := Op.load 3 (Operand.tmp 47), type := 3, pos := "law.go:132", after := #[{ on := 24, ground := Ground.data }, { on := 21, ground := Ground.guard }], guard := some (21, false) }) (v := ?vv25_83) rfl (by kernel_rfl) (by kernel_rfl) (by kernel_rfl) (fun _ _ _ h => h) (Or.inl ⟨by rfl, ?hy25_83⟩) hHd ?rest25_83
        case hy25_83 =>
          intro w hSw
          have hQ := hlk.out w hSw
          have hQ0 := hQ.1
          have hQ1 := hQ.2.1
          have hQ2 := hQ.2.2
          go_simp
          try with_reducible rfl
        try simp only [Act.put, List.setIfInBounds_toArray, List.set_cons_zero, List.set_cons_succ]
        refine wpAnyH_take (i := 26) (oi := { dst := some 49, op := Op.fieldAddr 27 (Operand.tmp 2) 1, type := 0, pos := "law.go:132", after := #[{ on := 21, ground := Ground.guard }], guard := some (21, false) }) (v := ?vv26_84) rfl (by kernel_rfl) (by kernel_rfl) (by kernel_rfl) (fun _ _ _ h => h) (Or.inl ⟨by rfl, ?hy26_84⟩) hHd ?rest26_84
        case hy26_84 =>
          intro w hSw
          go_simp
          try with_reducible rfl
        try simp only [Act.put, List.setIfInBounds_toArray, List.set_cons_zero, List.set_cons_succ]
        refine wpAnyH_take (i := 27) (oi := { dst := some 50, op := Op.load 23 (Operand.tmp 49), type := 23, pos := "law.go:132", after := #[{ on := 26, ground := Ground.data }, { on := 21, ground := Ground.guard }], guard := some (21, false) }) (v := ?vv27_85) rfl (by kernel_rfl) (by kernel_rfl) (by kernel_rfl) (fun _ _ _ h => h) (Or.inl ⟨by rfl, ?hy27_85⟩) hHd ?rest27_85
        case hy27_85 =>
          intro w hSw
          have hQ := hlk.out w hSw
          have hQ0 := hQ.1
          have hQ1 := hQ.2.1
          have hQ2 := hQ.2.2
          go_simp
          try with_reducible rfl
        try simp only [Act.put, List.setIfInBounds_toArray, List.set_cons_zero, List.set_cons_succ]
        refine wpAnyH_take (i := 28) (oi := { dst := some 51, op := Op.call { callee := Callee.builtin Builtin.len, args := #[Operand.tmp 50], argTypes := #[23] }, type := 3, pos := "law.go:132", after := #[{ on := 27, ground := Ground.data }, { on := 21, ground := Ground.guard }], guard := some (21, false) }) (v := ?vv28_86) rfl (by kernel_rfl) (by kernel_rfl) (by kernel_rfl) (fun _ _ _ h => h) (Or.inl ⟨by rfl, ?hy28_86⟩) hHd ?rest28_86
        case hy28_86 =>
          intro w hSw
          go_simp
          try with_reducible rfl
        try simp only [Act.put, List.setIfInBounds_toArray, List.set_cons_zero, List.set_cons_succ]
        refine wpAnyH_take (i := 29) (oi := { dst := some 52, op := Op.binOp BinOp.geq 3 (Operand.tmp 48) (Operand.tmp 51) 3, type := 4, pos := "law.go:132", after := #[{ on := 25, ground := Ground.data }, { on := 28, ground := Ground.data }, { on := 21, ground := Ground.guard }], guard := some (21, false) }) (v := .bool false) rfl (by kernel_rfl) (by kernel_rfl) (by kernel_rfl) (fun _ _ _ h => h) (Or.inl ⟨by rfl, fun w hSw => by first | (go_simp; done) | (go_simp; simp only [decide_eq_false_iff_not, beq_iff_eq, bne_self_eq_false]; omega) | (go_simp; simp [*]; done) | (go_simp; omega)⟩) hHd ?_
        try simp only [Act.put, List.setIfInBounds_toArray, List.set_cons_zero, List.set_cons_succ]
        refine wpAnyH_take (i := 30) (oi := { dst := some 53, op := Op.pick (Operand.tmp 44) (Operand.const (Value.bool true)) (Operand.tmp 52), type := 4, pos := "law.go:132", after := #[{ on := 21, ground := Ground.data }, { on := 29, ground := Ground.data }], guard := none }) (v := ?vv30_87) rfl (by kernel_rfl) (by kernel_rfl) (by kernel_rfl) (fun _ _ _ h => h) (Or.inl ⟨by rfl, ?hy30_87⟩) hHd ?rest30_87
        case hy30_87 =>
          intro w hSw
          go_simp
          try with_reducible rfl
        try simp only [Act.put, List.setIfInBounds_toArray, List.set_cons_zero, List.set_cons_succ]
        refine wpAnyH_take (i := 31) (oi := { dst := some 54, op := Op.move (Operand.tmp 53), type := 4, pos := "law.go:132", after := #[{ on := 30, ground := Ground.data }, { on := 21, ground := Ground.chain }], guard := none }) (v := ?vv31_88) rfl (by kernel_rfl) (by kernel_rfl) (by kernel_rfl) (fun _ _ _ h => h) (Or.inl ⟨by rfl, ?hy31_88⟩) hHd ?rest31_88
        case hy31_88 =>
          intro w hSw
          go_simp
          try with_reducible rfl
        try simp only [Act.put, List.setIfInBounds_toArray, List.set_cons_zero, List.set_cons_succ]
        refine wpAnyH_take (i := 32) (oi := { dst := some 55, op := Op.fieldAddr 27 (Operand.tmp 2) 1, type := 0, pos := "law.go:132", after := #[{ on := 31, ground := Ground.guard }], guard := some (31, false) }) (v := ?vv32_89) rfl (by kernel_rfl) (by kernel_rfl) (by kernel_rfl) (fun _ _ _ h => h) (Or.inl ⟨by rfl, ?hy32_89⟩) hHd ?rest32_89
        case hy32_89 =>
          intro w hSw
          go_simp
          try with_reducible rfl
        try simp only [Act.put, List.setIfInBounds_toArray, List.set_cons_zero, List.set_cons_succ]
        refine wpAnyH_take (i := 33) (oi := { dst := some 56, op := Op.load 23 (Operand.tmp 55), type := 23, pos := "law.go:132", after := #[{ on := 32, ground := Ground.data }, { on := 31, ground := Ground.guard }], guard := some (31, false) }) (v := ?vv33_90) rfl (by kernel_rfl) (by kernel_rfl) (by kernel_rfl) (fun _ _ _ h => h) (Or.inl ⟨by rfl, ?hy33_90⟩) hHd ?rest33_90
        case hy33_90 =>
          intro w hSw
          have hQ := hlk.out w hSw
          have hQ0 := hQ.1
          have hQ1 := hQ.2.1
          have hQ2 := hQ.2.2
          go_simp
          try with_reducible rfl
        try simp only [Act.put, List.setIfInBounds_toArray, List.set_cons_zero, List.set_cons_succ]
        refine wpAnyH_take (i := 34) (oi := { dst := some 57, op := Op.move (Operand.tmp 5), type := 52, pos := "law.go:132", after := #[{ on := 31, ground := Ground.guard }], guard := some (31, false) }) (v := ?vv34_91) rfl (by kernel_rfl) (by kernel_rfl) (by kernel_rfl) (fun _ _ _ h => h) (Or.inl ⟨by rfl, ?hy34_91⟩) hHd ?rest34_91
        case hy34_91 =>
          intro w hSw
          go_simp
          try with_reducible rfl
        try simp only [Act.put, List.setIfInBounds_toArray, List.set_cons_zero, List.set_cons_succ]
        refine wpAnyH_take (i := 35) (oi := { dst := some 58, op := Op.move (Operand.tmp 7), type := 3, pos := "law.go:132", after := #[{ on := 31, ground := Ground.guard }], guard := some (31, false) }) (v := ?vv35_92) rfl (by kernel_rfl) (by kernel_rfl) (by kernel_rfl) (fun _ _ _ h => h) (Or.inl ⟨by rfl, ?hy35_92⟩) hHd ?rest35_92
        case hy35_92 =>
          intro w hSw
          go_simp
          try with_reducible rfl
        try simp only [Act.put, List.setIfInBounds_toArray, List.set_cons_zero, List.set_cons_succ]
        refine wpAnyH_take (i := 36) (oi := { dst := some 59, op := Op.indexAddr 52 (Operand.tmp 57) (Operand.tmp 58), type := 0, pos := "law.go:132", after := #[{ on := 34, ground := Ground.data }, { on := 35, ground := Ground.data }, { on := 31, ground := Ground.guard }], guard := some (31, false) }) (v := ?vv36_93) rfl (by kernel_rfl) (by kernel_rfl) (by kernel_rfl) (fun _ _ _ h => h) (Or.inl ⟨by rfl, ?hy36_93⟩) hHd ?rest36_93
        case hy36_93 =>
          intro w hSw
          go_simp
          try with_reducible rfl
        try simp only [Act.put, List.setIfInBounds_toArray, List.set_cons_zero, List.set_cons_succ]
        refine wpAnyH_take (i := 37) (oi := { dst := some 60, op := Op.load 3 (Operand.tmp 59), type := 3, pos := "law.go:132", after := #[{ on := 36, ground := Ground.data }, { on := 31, ground := Ground.guard }], guard := some (31, false) }) (v := ?vv37_94) rfl (by kernel_rfl) (by kernel_rfl) (by kernel_rfl) (fun _ _ _ h => h) (Or.inl ⟨by rfl, ?hy37_94⟩) hHd ?rest37_94
        case hy37_94 =>
          intro w hSw
          have hQ := hlk.out w hSw
          have hQ0 := hQ.1
          have hQ1 := hQ.2.1
          have hQ2 := hQ.2.2
          go_simp
          try with_reducible rfl
        try simp only [Act.put, List.setIfInBounds_toArray, List.set_cons_zero, List.set_cons_succ]
        refine wpAnyH_take (i := 38) (oi := { dst := some 61, op := Op.indexAddr 23 (Operand.tmp 56) (Operand.tmp 60), type := 0, pos := "law.go:132", after := #[{ on := 33, ground := Ground.data }, { on := 37, ground := Ground.data }, { on := 31, ground := Ground.guard }], guard := some (31, false) }) (v := ?vv38_95) rfl (by kernel_rfl) (by kernel_rfl) (by kernel_rfl) (fun _ _ _ h => h) (Or.inl ⟨by rfl, ?hy38_95⟩) hHd ?rest38_95
        case hy38_95 =>
          intro w hSw
          go_simp
          try with_reducible rfl
        try simp only [Act.put, List.setIfInBounds_toArray, List.set_cons_zero, List.set_cons_succ]
        refine wpAnyH_take (i := 39) (oi := { dst := some 62, op := Op.fieldAddr 43 (Operand.tmp 61) 0, type := 0, pos := "law.go:132", after := #[{ on := 38, ground := Ground.data }, { on := 31, ground := Ground.guard }], guard := some (31, false) }) (v := ?vv39_96) rfl (by kernel_rfl) (by kernel_rfl) (by kernel_rfl) (fun _ _ _ h => h) (Or.inl ⟨by rfl, ?hy39_96⟩) hHd ?rest39_96
        case hy39_96 =>
          intro w hSw
          go_simp
          try with_reducible rfl
        try simp only [Act.put, List.setIfInBounds_toArray, List.set_cons_zero, List.set_cons_succ]
        refine wpAnyH_take (i := 40) (oi := { dst := some 63, op := Op.load 3 (Operand.tmp 62), type := 3, pos := "law.go:132", after := #[{ on := 39, ground := Ground.data }, { on := 31, ground := Ground.guard }], guard := some (31, false) }) (v := ?vv40_97) rfl (by kernel_rfl) (by kernel_rfl) (by kernel_rfl) (fun _ _ _ h => h) (Or.inl ⟨by rfl, ?hy40_97⟩) hHd ?rest40_97
        case hy40_97 =>
          intro w hSw
          have hQ := hlk.out w hSw
          have hQ0 := hQ.1
          have hQ1 := hQ.2.1
          have hQ2 := hQ.2.2
          go_simp
          try with_reducible rfl
        try simp only [Act.put, List.setIfInBounds_toArray, List.set_cons_zero, List.set_cons_succ]
        refine wpAnyH_take (i := 41) (oi := { dst := some 64, op := Op.move (Operand.tmp 1), type := 3, pos := "law.go:132", after := #[{ on := 31, ground := Ground.guard }], guard := some (31, false) }) (v := ?vv41_98) rfl (by kernel_rfl) (by kernel_rfl) (by kernel_rfl) (fun _ _ _ h => h) (Or.inl ⟨by rfl, ?hy41_98⟩) hHd ?rest41_98
        case hy41_98 =>
          intro w hSw
          go_simp
          try with_reducible rfl
        try simp only [Act.put, List.setIfInBounds_toArray, List.set_cons_zero, List.set_cons_succ]
        refine wpAnyH_take (i := 42) (oi := { dst := some 65, op := Op.binOp BinOp.neq 3 (Operand.tmp 63) (Operand.tmp 64) 3, type := 4, pos := "law.go:132", after := #[{ on := 40, ground := Ground.data }, { on := 41, ground := Ground.data }, { on := 31, ground := Ground.guard }], guard := some (31, false) }) (v := .bool false) rfl (by kernel_rfl) (by kernel_rfl) (by kernel_rfl) (fun _ _ _ h => h) (Or.inl ⟨by rfl, fun w hSw => by first | (go_simp; done) | (go_simp; simp only [decide_eq_false_iff_not, beq_iff_eq, bne_self_eq_false]; omega) | (go_simp; simp [*]; done) | (go_simp; omega)⟩) hHd ?_
        try simp only [Act.put, List.setIfInBounds_toArray, List.set_cons_zero, List.set_cons_succ]
        refine wpAnyH_take (i := 43) (oi := { dst := some 66, op := Op.pick (Operand.tmp 54) (Operand.const (Value.bool true)) (Operand.tmp 65), type := 4, pos := "law.go:132", after := #[{ on := 31, ground := Ground.data }, { on := 42, ground := Ground.data }], guard := none }) (v := ?vv43_99) rfl (by kernel_rfl) (by kernel_rfl) (by kernel_rfl) (fun _ _ _ h => h) (Or.inl ⟨by rfl, ?hy43_99⟩) hHd ?rest43_99
        case hy43_99 =>
          intro w hSw
          go_simp
          try with_reducible rfl
        try simp only [Act.put, List.setIfInBounds_toArray, List.set_cons_zero, List.set_cons_succ]
        refine wpAnyH_done (by kernel_rfl) ?_ _
        go_wp2_with fail
        go_roundw
        case rel => (repeat apply Exists.intro); first | exact ⟨hi'.out, by go_num⟩ | exact ⟨hi'.out, by go_num, hbd⟩ | exact ⟨⟨hi'.out, by go_num, hbd⟩, rfl⟩
        case measure => have := hi'.out; simp [intOf]; omega
      · obtain ⟨k, hk⟩ : ∃ k : Nat, i = k + 1 := ⟨i - 1, by omega⟩
        have hwk : IntKind.i64.wrap ((i : Int) - 1) = (k : Int) := by rw [IntWalk.i64_in _ (by omega)]; omega
        have hkl : k < L1 := by omega
        have hkz : (k : Int) < (L1 : Int) := by omega
        have hi0 : (0 : Int) < (i : Int) := by omega
        have hlt := hp1.out k (by omega)
        rw [← hk] at hlt
        have hlk : Hid (∀ w', Below wr.heap.size wr w' → w'.cell? ⟨B, 1, none⟩ = some (.slice (some ⟨b, off, none⟩) v.ll v.lc) ∧ w'.cell? ⟨b, off + (l1.getD i 0) * 4, none⟩ = some (.int .i64 n) ∧ w'.cell? ⟨g, o + i, none⟩ = some (.int .i64 (l1.getD i 0 : Nat)) ∧ w'.cell? ⟨g, o + k, none⟩ = some (.int .i64 (l1.getD k 0 : Nat))) := Lib.hid (fun w' h => ⟨(hlc.out w' h).1, (hlc.out w' h).2, hgc.out w' i h hi'.out, hgc.out w' k h (by have := hi'.out; omega)⟩)
        generalize l1.getD i 0 = y at hlk hyl hlt
        generalize l1.getD k 0 = x at hlk hlt
        have hyz : (y : Int) < (v.ll : Int) := by omega
        have hyz2 : ¬ (v.ll : Int) ≤ (y : Int) := by omega
        have hyn : ¬ v.ll ≤ y := by omega
        have hxy : ¬ (y : Int) ≤ (x : Int) := by omega
        have hxn : ¬ y ≤ x := by omega
        clear hgc hm hsr hlk1 hlc hR hla hi hbr hk
        go_upto_region 6 with fail
        refine wp_region_held_drew (S := fun w' => Below wr.heap.size wr w') (by kernel_rfl) ((Below.refl _ wr).drew) (fun hHeld => ?_)
        clear hHeld
        have hHd : Below wr.heap.size wr wr.drew := (Below.refl _ wr).drew
        refine wpAnyH_take (i := 0) (oi := { dst := some 23, op := Op.move (Operand.tmp 7), type := 3, pos := "law.go:132", after := #[], guard := none }) (v := ?vv0_100) rfl (by kernel_rfl) (by kernel_rfl) (by kernel_rfl) (fun _ _ _ h => h) (Or.inl ⟨by rfl, ?hy0_100⟩) hHd ?rest0_100
        case hy0_100 =>
          intro w hSw
          go_simp
          try with_reducible rfl
        try simp only [Act.put, List.setIfInBounds_toArray, List.set_cons_zero, List.set_cons_succ]
        refine wpAnyH_take (i := 1) (oi := { dst := some 24, op := Op.binOp BinOp.gtr 3 (Operand.tmp 23) (Operand.const (Value.int IntKind.i64 0)) 3, type := 4, pos := "law.go:132", after := #[{ on := 0, ground := Ground.data }], guard := none }) (v := .bool true) rfl (by kernel_rfl) (by kernel_rfl) (by kernel_rfl) (fun _ _ _ h => h) (Or.inl ⟨by rfl, fun w hSw => by first | (go_simp; done) | (go_simp; simp only [decide_eq_true_eq, beq_iff_eq, bne_self_eq_false]; omega) | (go_simp; simp [*]; done) | (go_simp; omega)⟩) hHd ?_
        try simp only [Act.put, List.setIfInBounds_toArray, List.set_cons_zero, List.set_cons_succ]
        refine wpAnyH_take (i := 2) (oi := { dst := some 25, op := Op.move (Operand.tmp 24), type := 4, pos := "law.go:132", after := #[{ on := 1, ground := Ground.data }], guard := none }) (v := ?vv2_101) rfl (by kernel_rfl) (by kernel_rfl) (by kernel_rfl) (fun _ _ _ h => h) (Or.inl ⟨by rfl, ?hy2_101⟩) hHd ?rest2_101
        case hy2_101 =>
          intro w hSw
          go_simp
          try with_reducible rfl
        try simp only [Act.put, List.setIfInBounds_toArray, List.set_cons_zero, List.set_cons_succ]
        refine wpAnyH_take (i := 3) (oi := { dst := some 26, op := Op.move (Operand.tmp 5), type := 52, pos := "law.go:132", after := #[{ on := 2, ground := Ground.guard }], guard := some (2, true) }) (v := ?vv3_102) rfl (by kernel_rfl) (by kernel_rfl) (by kernel_rfl) (fun _ _ _ h => h) (Or.inl ⟨by rfl, ?hy3_102⟩) hHd ?rest3_102
        case hy3_102 =>
          intro w hSw
          go_simp
          try with_reducible rfl
        try simp only [Act.put, List.setIfInBounds_toArray, List.set_cons_zero, List.set_cons_succ]
        refine wpAnyH_take (i := 4) (oi := { dst := some 27, op := Op.move (Operand.tmp 7), type := 3, pos := "law.go:132", after := #[{ on := 2, ground := Ground.guard }], guard := some (2, true) }) (v := ?vv4_103) rfl (by kernel_rfl) (by kernel_rfl) (by kernel_rfl) (fun _ _ _ h => h) (Or.inl ⟨by rfl, ?hy4_103⟩) hHd ?rest4_103
        case hy4_103 =>
          intro w hSw
          go_simp
          try with_reducible rfl
        try simp only [Act.put, List.setIfInBounds_toArray, List.set_cons_zero, List.set_cons_succ]
        refine wpAnyH_take (i := 5) (oi := { dst := some 28, op := Op.binOp BinOp.sub 3 (Operand.tmp 27) (Operand.const (Value.int IntKind.i64 1)) 3, type := 3, pos := "law.go:132", after := #[{ on := 4, ground := Ground.data }, { on := 2, ground := Ground.guard }], guard := some (2, true) }) (v := ?vv5_104) rfl (by kernel_rfl) (by kernel_rfl) (by kernel_rfl) (fun _ _ _ h => h) (Or.inl ⟨by rfl, ?hy5_104⟩) hHd ?rest5_104
        case hy5_104 =>
          intro w hSw
          go_simp
          try with_reducible rfl
        try simp only [Act.put, List.setIfInBounds_toArray, List.set_cons_zero, List.set_cons_succ]
        refine wpAnyH_take (i := 6) (oi := { dst := some 29, op := Op.indexAddr 52 (Operand.tmp 26) (Operand.tmp 28), type := 0, pos := "law.go:132", after := #[{ on := 3, ground := Ground.data }, { on := 5, ground := Ground.data }, { on := 2, ground := Ground.guard }], guard := some (2, true) }) (v := ?vv6_105) rfl (by kernel_rfl) (by kernel_rfl) (by kernel_rfl) (fun _ _ _ h => h) (Or.inl ⟨by rfl, ?hy6_105⟩) hHd ?rest6_105
        case hy6_105 =>
          intro w hSw
          go_simp
          try with_reducible rfl
        try simp only [Act.put, List.setIfInBounds_toArray, List.set_cons_zero, List.set_cons_succ]
        refine wpAnyH_take (i := 7) (oi := { dst := some 30, op := Op.load 3 (Operand.tmp 29), type := 3, pos := "law.go:132", after := #[{ on := 6, ground := Ground.data }, { on := 2, ground := Ground.guard }], guard := some (2, true) }) (v := ?vv7_106) rfl (by kernel_rfl) (by kernel_rfl) (by kernel_rfl) (fun _ _ _ h => h) (Or.inl ⟨by rfl, ?hy7_106⟩) hHd ?rest7_106
        case hy7_106 =>
          intro w hSw
          have hQ := hlk.out w hSw
          have hQ0 := hQ.1
          have hQ1 := hQ.2.1
          have hQ2 := hQ.2.2.1
          have hQ3 := hQ.2.2.2
          go_simp
          try with_reducible rfl
        try simp only [Act.put, List.setIfInBounds_toArray, List.set_cons_zero, List.set_cons_succ]
        refine wpAnyH_take (i := 8) (oi := { dst := some 31, op := Op.move (Operand.tmp 5), type := 52, pos := "law.go:132", after := #[{ on := 2, ground := Ground.guard }], guard := some (2, true) }) (v := ?vv8_107) rfl (by kernel_rfl) (by kernel_rfl) (by kernel_rfl) (fun _ _ _ h => h) (Or.inl ⟨by rfl, ?hy8_107⟩) hHd ?rest8_107
        case hy8_107 =>
          intro w hSw
          go_simp
          try with_reducible rfl
        try simp only [Act.put, List.setIfInBounds_toArray, List.set_cons_zero, List.set_cons_succ]
        refine wpAnyH_take (i := 9) (oi := { dst := some 32, op := Op.move (Operand.tmp 7), type := 3, pos := "law.go:132", after := #[{ on := 2, ground := Ground.guard }], guard := some (2, true) }) (v := ?vv9_108) rfl (by kernel_rfl) (by kernel_rfl) (by kernel_rfl) (fun _ _ _ h => h) (Or.inl ⟨by rfl, ?hy9_108⟩) hHd ?rest9_108
        case hy9_108 =>
          intro w hSw
          go_simp
          try with_reducible rfl
        try simp only [Act.put, List.setIfInBounds_toArray, List.set_cons_zero, List.set_cons_succ]
        refine wpAnyH_take (i := 10) (oi := { dst := some 33, op := Op.indexAddr 52 (Operand.tmp 31) (Operand.tmp 32), type := 0, pos := "law.go:132", after := #[{ on := 8, ground := Ground.data }, { on := 9, ground := Ground.data }, { on := 2, ground := Ground.guard }], guard := some (2, true) }) (v := ?vv10_109) rfl (by kernel_rfl) (by kernel_rfl) (by kernel_rfl) (fun _ _ _ h => h) (Or.inl ⟨by rfl, ?hy10_109⟩) hHd ?rest10_109
        case hy10_109 =>
          intro w hSw
          go_simp
          try with_reducible rfl
        try simp only [Act.put, List.setIfInBounds_toArray, List.set_cons_zero, List.set_cons_succ]
        refine wpAnyH_take (i := 11) (oi := { dst := some 34, op := Op.load 3 (Operand.tmp 33), type := 3, pos := "law.go:132", after := #[{ on := 10, ground := Ground.data }, { on := 2, ground := Ground.guard }], guard := some (2, true) }) (v := ?vv11_110) rfl (by kernel_rfl) (by kernel_rfl) (by kernel_rfl) (fun _ _ _ h => h) (Or.inl ⟨by rfl, ?hy11_110⟩) hHd ?rest11_110
        case hy11_110 =>
          intro w hSw
          have hQ := hlk.out w hSw
          have hQ0 := hQ.1
          have hQ1 := hQ.2.1
          have hQ2 := hQ.2.2.1
          have hQ3 := hQ.2.2.2
          go_simp
          try with_reducible rfl
        try simp only [Act.put, List.setIfInBounds_toArray, List.set_cons_zero, List.set_cons_succ]
        refine wpAnyH_take (i := 12) (oi := { dst := some 35, op := Op.binOp BinOp.geq 3 (Operand.tmp 30) (Operand.tmp 34) 3, type := 4, pos := "law.go:132", after := #[{ on := 7, ground := Ground.data }, { on := 11, ground := Ground.data }, { on := 2, ground := Ground.guard }], guard := some (2, true) }) (v := .bool false) rfl (by kernel_rfl) (by kernel_rfl) (by kernel_rfl) (fun _ _ _ h => h) (Or.inl ⟨by rfl, fun w hSw => by first | (go_simp; done) | (go_simp; simp only [decide_eq_false_iff_not, beq_iff_eq, bne_self_eq_false]; omega) | (go_simp; simp [*]; done) | (go_simp; omega)⟩) hHd ?_
        try simp only [Act.put, List.setIfInBounds_toArray, List.set_cons_zero, List.set_cons_succ]
        refine wpAnyH_take (i := 13) (oi := { dst := some 36, op := Op.pick (Operand.tmp 25) (Operand.tmp 35) (Operand.const (Value.bool false)), type := 4, pos := "law.go:132", after := #[{ on := 2, ground := Ground.data }, { on := 12, ground := Ground.data }], guard := none }) (v := ?vv13_111) rfl (by kernel_rfl) (by kernel_rfl) (by kernel_rfl) (fun _ _ _ h => h) (Or.inl ⟨by rfl, ?hy13_111⟩) hHd ?rest13_111
        case hy13_111 =>
          intro w hSw
          go_simp
          try with_reducible rfl
        try simp only [Act.put, List.setIfInBounds_toArray, List.set_cons_zero, List.set_cons_succ]
        refine wpAnyH_take (i := 14) (oi := { dst := some 37, op := Op.move (Operand.tmp 36), type := 4, pos := "law.go:132", after := #[{ on := 13, ground := Ground.data }, { on := 2, ground := Ground.chain }], guard := none }) (v := ?vv14_112) rfl (by kernel_rfl) (by kernel_rfl) (by kernel_rfl) (fun _ _ _ h => h) (Or.inl ⟨by rfl, ?hy14_112⟩) hHd ?rest14_112
        case hy14_112 =>
          intro w hSw
          go_simp
          try with_reducible rfl
        try simp only [Act.put, List.setIfInBounds_toArray, List.set_cons_zero, List.set_cons_succ]
        refine wpAnyH_take (i := 15) (oi := { dst := some 38, op := Op.move (Operand.tmp 5), type := 52, pos := "law.go:132", after := #[{ on := 14, ground := Ground.guard }], guard := some (14, false) }) (v := ?vv15_113) rfl (by kernel_rfl) (by kernel_rfl) (by kernel_rfl) (fun _ _ _ h => h) (Or.inl ⟨by rfl, ?hy15_113⟩) hHd ?rest15_113
        case hy15_113 =>
          intro w hSw
          go_simp
          try with_reducible rfl
        try simp only [Act.put, List.setIfInBounds_toArray, List.set_cons_zero, List.set_cons_succ]
        refine wpAnyH_take (i := 16) (oi := { dst := some 39, op := Op.move (Operand.tmp 7), type := 3, pos := "law.go:132", after := #[{ on := 14, ground := Ground.guard }], guard := some (14, false) }) (v := ?vv16_114) rfl (by kernel_rfl) (by kernel_rfl) (by kernel_rfl) (fun _ _ _ h => h) (Or.inl ⟨by rfl, ?hy16_114⟩) hHd ?rest16_114
        case hy16_114 =>
          intro w hSw
          go_simp
          try with_reducible rfl
        try simp only [Act.put, List.setIfInBounds_toArray, List.set_cons_zero, List.set_cons_succ]
        refine wpAnyH_take (i := 17) (oi := { dst := some 40, op := Op.indexAddr 52 (Operand.tmp 38) (Operand.tmp 39), type := 0, pos := "law.go:132", after := #[{ on := 15, ground := Ground.data }, { on := 16, ground := Ground.data }, { on := 14, ground := Ground.guard }], guard := some (14, false) }) (v := ?vv17_115) rfl (by kernel_rfl) (by kernel_rfl) (by kernel_rfl) (fun _ _ _ h => h) (Or.inl ⟨by rfl, ?hy17_115⟩) hHd ?rest17_115
        case hy17_115 =>
          intro w hSw
          go_simp
          try with_reducible rfl
        try simp only [Act.put, List.setIfInBounds_toArray, List.set_cons_zero, List.set_cons_succ]
        refine wpAnyH_take (i := 18) (oi := { dst := some 41, op := Op.load 3 (Operand.tmp 40), type := 3, pos := "law.go:132", after := #[{ on := 17, ground := Ground.data }, { on := 14, ground := Ground.guard }], guard := some (14, false) }) (v := ?vv18_116) rfl (by kernel_rfl) (by kernel_rfl) (by kernel_rfl) (fun _ _ _ h => h) (Or.inl ⟨by rfl, ?hy18_116⟩) hHd ?rest18_116
        case hy18_116 =>
          intro w hSw
          have hQ := hlk.out w hSw
          have hQ0 := hQ.1
          have hQ1 := hQ.2.1
          have hQ2 := hQ.2.2.1
          have hQ3 := hQ.2.2.2
          go_simp
          try with_reducible rfl
        try simp only [Act.put, List.setIfInBounds_toArray, List.set_cons_zero, List.set_cons_succ]
        refine wpAnyH_take (i := 19) (oi := { dst := some 42, op := Op.binOp BinOp.lss 3 (Operand.tmp 41) (Operand.const (Value.int IntKind.i64 0)) 3, type := 4, pos := "law.go:132", after := #[{ on := 18, ground := Ground.data }, { on := 14, ground := Ground.guard }], guard := some (14, false) }) (v := .bool false) rfl (by kernel_rfl) (by kernel_rfl) (by kernel_rfl) (fun _ _ _ h => h) (Or.inl ⟨by rfl, fun w hSw => by first | (go_simp; done) | (go_simp; simp only [decide_eq_false_iff_not, beq_iff_eq, bne_self_eq_false]; omega) | (go_simp; simp [*]; done) | (go_simp; omega)⟩) hHd ?_
        try simp only [Act.put, List.setIfInBounds_toArray, List.set_cons_zero, List.set_cons_succ]
        refine wpAnyH_take (i := 20) (oi := { dst := some 43, op := Op.pick (Operand.tmp 37) (Operand.const (Value.bool true)) (Operand.tmp 42), type := 4, pos := "law.go:132", after := #[{ on := 14, ground := Ground.data }, { on := 19, ground := Ground.data }], guard := none }) (v := ?vv20_117) rfl (by kernel_rfl) (by kernel_rfl) (by kernel_rfl) (fun _ _ _ h => h) (Or.inl ⟨by rfl, ?hy20_117⟩) hHd ?rest20_117
        case hy20_117 =>
          intro w hSw
          go_simp
          try with_reducible rfl
        try simp only [Act.put, List.setIfInBounds_toArray, List.set_cons_zero, List.set_cons_succ]
        refine wpAnyH_take (i := 21) (oi := { dst := some 44, op := Op.move (Operand.tmp 43), type := 4, pos := "law.go:132", after := #[{ on := 20, ground := Ground.data }, { on := 14, ground := Ground.chain }], guard := none }) (v := ?vv21_118) rfl (by kernel_rfl) (by kernel_rfl) (by kernel_rfl) (fun _ _ _ h => h) (Or.inl ⟨by rfl, ?hy21_118⟩) hHd ?rest21_118
        case hy21_118 =>
          intro w hSw
          go_simp
          try with_reducible rfl
        try simp only [Act.put, List.setIfInBounds_toArray, List.set_cons_zero, List.set_cons_succ]
        refine wpAnyH_take (i := 22) (oi := { dst := some 45, op := Op.move (Operand.tmp 5), type := 52, pos := "law.go:132", after := #[{ on := 21, ground := Ground.guard }], guard := some (21, false) }) (v := ?vv22_119) rfl (by kernel_rfl) (by kernel_rfl) (by kernel_rfl) (fun _ _ _ h => h) (Or.inl ⟨by rfl, ?hy22_119⟩) hHd ?rest22_119
        case hy22_119 =>
          intro w hSw
          go_simp
          try with_reducible rfl
        try simp only [Act.put, List.setIfInBounds_toArray, List.set_cons_zero, List.set_cons_succ]
        refine wpAnyH_take (i := 23) (oi := { dst := some 46, op := Op.move (Operand.tmp 7), type := 3, pos := "law.go:132", after := #[{ on := 21, ground := Ground.guard }], guard := some (21, false) }) (v := ?vv23_120) rfl (by kernel_rfl) (by kernel_rfl) (by kernel_rfl) (fun _ _ _ h => h) (Or.inl ⟨by rfl, ?hy23_120⟩) hHd ?rest23_120
        case hy23_120 =>
          intro w hSw
          go_simp
          try with_reducible rfl
        try simp only [Act.put, List.setIfInBounds_toArray, List.set_cons_zero, List.set_cons_succ]
        refine wpAnyH_take (i := 24) (oi := { dst := some 47, op := Op.indexAddr 52 (Operand.tmp 45) (Operand.tmp 46), type := 0, pos := "law.go:132", after := #[{ on := 22, ground := Ground.data }, { on := 23, ground := Ground.data }, { on := 21, ground := Ground.guard }], guard := some (21, false) }) (v := ?vv24_121) rfl (by kernel_rfl) (by kernel_rfl) (by kernel_rfl) (fun _ _ _ h => h) (Or.inl ⟨by rfl, ?hy24_121⟩) hHd ?rest24_121
        case hy24_121 =>
          intro w hSw
          go_simp
          try with_reducible rfl
        try simp only [Act.put, List.setIfInBounds_toArray, List.set_cons_zero, List.set_cons_succ]
        refine wpAnyH_take (i := 25) (oi := { dst := some 48, op := Op.load 3 (Operand.tmp 47), type := 3, pos := "law.go:132", after := #[{ on := 24, ground := Ground.data }, { on := 21, ground := Ground.guard }], guard := some (21, false) }) (v := ?vv25_122) rfl (by kernel_rfl) (by kernel_rfl) (by kernel_rfl) (fun _ _ _ h => h) (Or.inl ⟨by rfl, ?hy25_122⟩) hHd ?rest25_122
        case hy25_122 =>
          intro w hSw
          have hQ := hlk.out w hSw
          have hQ0 := hQ.1
          have hQ1 := hQ.2.1
          have hQ2 := hQ.2.2.1
          have hQ3 := hQ.2.2.2
          go_simp
          try with_reducible rfl
        try simp only [Act.put, List.setIfInBounds_toArray, List.set_cons_zero, List.set_cons_succ]
        refine wpAnyH_take (i := 26) (oi := { dst := some 49, op := Op.fieldAddr 27 (Operand.tmp 2) 1, type := 0, pos := "law.go:132", after := #[{ on := 21, ground := Ground.guard }], guard := some (21, false) }) (v := ?vv26_123) rfl (by kernel_rfl) (by kernel_rfl) (by kernel_rfl) (fun _ _ _ h => h) (Or.inl ⟨by rfl, ?hy26_123⟩) hHd ?rest26_123
        case hy26_123 =>
          intro w hSw
          go_simp
          try with_reducible rfl
        try simp only [Act.put, List.setIfInBounds_toArray, List.set_cons_zero, List.set_cons_succ]
        refine wpAnyH_take (i := 27) (oi := { dst := some 50, op := Op.load 23 (Operand.tmp 49), type := 23, pos := "law.go:132", after := #[{ on := 26, ground := Ground.data }, { on := 21, ground := Ground.guard }], guard := some (21, false) }) (v := ?vv27_124) rfl (by kernel_rfl) (by kernel_rfl) (by kernel_rfl) (fun _ _ _ h => h) (Or.inl ⟨by rfl, ?hy27_124⟩) hHd ?rest27_124
        case hy27_124 =>
          intro w hSw
          have hQ := hlk.out w hSw
          have hQ0 := hQ.1
          have hQ1 := hQ.2.1
          have hQ2 := hQ.2.2.1
          have hQ3 := hQ.2.2.2
          go_simp
          try with_reducible rfl
        try simp only [Act.put, List.setIfInBounds_toArray, List.set_cons_zero, List.set_cons_succ]
        refine wpAnyH_take (i := 28) (oi := { dst := some 51, op := Op.call { callee := Callee.builtin Builtin.len, args := #[Operand.tmp 50], argTypes := #[23] }, type := 3, pos := "law.go:132", after := #[{ on := 27, ground := Ground.data }, { on := 21, ground := Ground.guard }], guard := some (21, false) }) (v := ?vv28_125) rfl (by kernel_rfl) (by kernel_rfl) (by kernel_rfl) (fun _ _ _ h => h) (Or.inl ⟨by rfl, ?hy28_125⟩) hHd ?rest28_125
        case hy28_125 =>
          intro w hSw
          go_simp
          try with_reducible rfl
        try simp only [Act.put, List.setIfInBounds_toArray, List.set_cons_zero, List.set_cons_succ]
        refine wpAnyH_take (i := 29) (oi := { dst := some 52, op := Op.binOp BinOp.geq 3 (Operand.tmp 48) (Operand.tmp 51) 3, type := 4, pos := "law.go:132", after := #[{ on := 25, ground := Ground.data }, { on := 28, ground := Ground.data }, { on := 21, ground := Ground.guard }], guard := some (21, false) }) (v := .bool false) rfl (by kernel_rfl) (by kernel_rfl) (by kernel_rfl) (fun _ _ _ h => h) (Or.inl ⟨by rfl, fun w hSw => by first | (go_simp; done) | (go_simp; simp only [decide_eq_false_iff_not, beq_iff_eq, bne_self_eq_false]; omega) | (go_simp; simp [*]; done) | (go_simp; omega)⟩) hHd ?_
        try simp only [Act.put, List.setIfInBounds_toArray, List.set_cons_zero, List.set_cons_succ]
        refine wpAnyH_take (i := 30) (oi := { dst := some 53, op := Op.pick (Operand.tmp 44) (Operand.const (Value.bool true)) (Operand.tmp 52), type := 4, pos := "law.go:132", after := #[{ on := 21, ground := Ground.data }, { on := 29, ground := Ground.data }], guard := none }) (v := ?vv30_126) rfl (by kernel_rfl) (by kernel_rfl) (by kernel_rfl) (fun _ _ _ h => h) (Or.inl ⟨by rfl, ?hy30_126⟩) hHd ?rest30_126
        case hy30_126 =>
          intro w hSw
          go_simp
          try with_reducible rfl
        try simp only [Act.put, List.setIfInBounds_toArray, List.set_cons_zero, List.set_cons_succ]
        refine wpAnyH_take (i := 31) (oi := { dst := some 54, op := Op.move (Operand.tmp 53), type := 4, pos := "law.go:132", after := #[{ on := 30, ground := Ground.data }, { on := 21, ground := Ground.chain }], guard := none }) (v := ?vv31_127) rfl (by kernel_rfl) (by kernel_rfl) (by kernel_rfl) (fun _ _ _ h => h) (Or.inl ⟨by rfl, ?hy31_127⟩) hHd ?rest31_127
        case hy31_127 =>
          intro w hSw
          go_simp
          try with_reducible rfl
        try simp only [Act.put, List.setIfInBounds_toArray, List.set_cons_zero, List.set_cons_succ]
        refine wpAnyH_take (i := 32) (oi := { dst := some 55, op := Op.fieldAddr 27 (Operand.tmp 2) 1, type := 0, pos := "law.go:132", after := #[{ on := 31, ground := Ground.guard }], guard := some (31, false) }) (v := ?vv32_128) rfl (by kernel_rfl) (by kernel_rfl) (by kernel_rfl) (fun _ _ _ h => h) (Or.inl ⟨by rfl, ?hy32_128⟩) hHd ?rest32_128
        case hy32_128 =>
          intro w hSw
          go_simp
          try with_reducible rfl
        try simp only [Act.put, List.setIfInBounds_toArray, List.set_cons_zero, List.set_cons_succ]
        refine wpAnyH_take (i := 33) (oi := { dst := some 56, op := Op.load 23 (Operand.tmp 55), type := 23, pos := "law.go:132", after := #[{ on := 32, ground := Ground.data }, { on := 31, ground := Ground.guard }], guard := some (31, false) }) (v := ?vv33_129) rfl (by kernel_rfl) (by kernel_rfl) (by kernel_rfl) (fun _ _ _ h => h) (Or.inl ⟨by rfl, ?hy33_129⟩) hHd ?rest33_129
        case hy33_129 =>
          intro w hSw
          have hQ := hlk.out w hSw
          have hQ0 := hQ.1
          have hQ1 := hQ.2.1
          have hQ2 := hQ.2.2.1
          have hQ3 := hQ.2.2.2
          go_simp
          try with_reducible rfl
        try simp only [Act.put, List.setIfInBounds_toArray, List.set_cons_zero, List.set_cons_succ]
        refine wpAnyH_take (i := 34) (oi := { dst := some 57, op := Op.move (Operand.tmp 5), type := 52, pos := "law.go:132", after := #[{ on := 31, ground := Ground.guard }], guard := some (31, false) }) (v := ?vv34_130) rfl (by kernel_rfl) (by kernel_rfl) (by kernel_rfl) (fun _ _ _ h => h) (Or.inl ⟨by rfl, ?hy34_130⟩) hHd ?rest34_130
        case hy34_130 =>
          intro w hSw
          go_simp
          try with_reducible rfl
        try simp only [Act.put, List.setIfInBounds_toArray, List.set_cons_zero, List.set_cons_succ]
        refine wpAnyH_take (i := 35) (oi := { dst := some 58, op := Op.move (Operand.tmp 7), type := 3, pos := "law.go:132", after := #[{ on := 31, ground := Ground.guard }], guard := some (31, false) }) (v := ?vv35_131) rfl (by kernel_rfl) (by kernel_rfl) (by kernel_rfl) (fun _ _ _ h => h) (Or.inl ⟨by rfl, ?hy35_131⟩) hHd ?rest35_131
        case hy35_131 =>
          intro w hSw
          go_simp
          try with_reducible rfl
        try simp only [Act.put, List.setIfInBounds_toArray, List.set_cons_zero, List.set_cons_succ]
        refine wpAnyH_take (i := 36) (oi := { dst := some 59, op := Op.indexAddr 52 (Operand.tmp 57) (Operand.tmp 58), type := 0, pos := "law.go:132", after := #[{ on := 34, ground := Ground.data }, { on := 35, ground := Ground.data }, { on := 31, ground := Ground.guard }], guard := some (31, false) }) (v := ?vv36_132) rfl (by kernel_rfl) (by kernel_rfl) (by kernel_rfl) (fun _ _ _ h => h) (Or.inl ⟨by rfl, ?hy36_132⟩) hHd ?rest36_132
        case hy36_132 =>
          intro w hSw
          go_simp
          try with_reducible rfl
        try simp only [Act.put, List.setIfInBounds_toArray, List.set_cons_zero, List.set_cons_succ]
        refine wpAnyH_take (i := 37) (oi := { dst := some 60, op := Op.load 3 (Operand.tmp 59), type := 3, pos := "law.go:132", after := #[{ on := 36, ground := Ground.data }, { on := 31, ground := Ground.guard }], guard := some (31, false) }) (v := ?vv37_133) rfl (by kernel_rfl) (by kernel_rfl) (by kernel_rfl) (fun _ _ _ h => h) (Or.inl ⟨by rfl, ?hy37_133⟩) hHd ?rest37_133
        case hy37_133 =>
          intro w hSw
          have hQ := hlk.out w hSw
          have hQ0 := hQ.1
          have hQ1 := hQ.2.1
          have hQ2 := hQ.2.2.1
          have hQ3 := hQ.2.2.2
          go_simp
          try with_reducible rfl
        try simp only [Act.put, List.setIfInBounds_toArray, List.set_cons_zero, List.set_cons_succ]
        refine wpAnyH_take (i := 38) (oi := { dst := some 61, op := Op.indexAddr 23 (Operand.tmp 56) (Operand.tmp 60), type := 0, pos := "law.go:132", after := #[{ on := 33, ground := Ground.data }, { on := 37, ground := Ground.data }, { on := 31, ground := Ground.guard }], guard := some (31, false) }) (v := ?vv38_134) rfl (by kernel_rfl) (by kernel_rfl) (by kernel_rfl) (fun _ _ _ h => h) (Or.inl ⟨by rfl, ?hy38_134⟩) hHd ?rest38_134
        case hy38_134 =>
          intro w hSw
          go_simp
          try with_reducible rfl
        try simp only [Act.put, List.setIfInBounds_toArray, List.set_cons_zero, List.set_cons_succ]
        refine wpAnyH_take (i := 39) (oi := { dst := some 62, op := Op.fieldAddr 43 (Operand.tmp 61) 0, type := 0, pos := "law.go:132", after := #[{ on := 38, ground := Ground.data }, { on := 31, ground := Ground.guard }], guard := some (31, false) }) (v := ?vv39_135) rfl (by kernel_rfl) (by kernel_rfl) (by kernel_rfl) (fun _ _ _ h => h) (Or.inl ⟨by rfl, ?hy39_135⟩) hHd ?rest39_135
        case hy39_135 =>
          intro w hSw
          go_simp
          try with_reducible rfl
        try simp only [Act.put, List.setIfInBounds_toArray, List.set_cons_zero, List.set_cons_succ]
        refine wpAnyH_take (i := 40) (oi := { dst := some 63, op := Op.load 3 (Operand.tmp 62), type := 3, pos := "law.go:132", after := #[{ on := 39, ground := Ground.data }, { on := 31, ground := Ground.guard }], guard := some (31, false) }) (v := ?vv40_136) rfl (by kernel_rfl) (by kernel_rfl) (by kernel_rfl) (fun _ _ _ h => h) (Or.inl ⟨by rfl, ?hy40_136⟩) hHd ?rest40_136
        case hy40_136 =>
          intro w hSw
          have hQ := hlk.out w hSw
          have hQ0 := hQ.1
          have hQ1 := hQ.2.1
          have hQ2 := hQ.2.2.1
          have hQ3 := hQ.2.2.2
          go_simp
          try with_reducible rfl
        try simp only [Act.put, List.setIfInBounds_toArray, List.set_cons_zero, List.set_cons_succ]
        refine wpAnyH_take (i := 41) (oi := { dst := some 64, op := Op.move (Operand.tmp 1), type := 3, pos := "law.go:132", after := #[{ on := 31, ground := Ground.guard }], guard := some (31, false) }) (v := ?vv41_137) rfl (by kernel_rfl) (by kernel_rfl) (by kernel_rfl) (fun _ _ _ h => h) (Or.inl ⟨by rfl, ?hy41_137⟩) hHd ?rest41_137
        case hy41_137 =>
          intro w hSw
          go_simp
          try with_reducible rfl
        try simp only [Act.put, List.setIfInBounds_toArray, List.set_cons_zero, List.set_cons_succ]
        refine wpAnyH_take (i := 42) (oi := { dst := some 65, op := Op.binOp BinOp.neq 3 (Operand.tmp 63) (Operand.tmp 64) 3, type := 4, pos := "law.go:132", after := #[{ on := 40, ground := Ground.data }, { on := 41, ground := Ground.data }, { on := 31, ground := Ground.guard }], guard := some (31, false) }) (v := .bool false) rfl (by kernel_rfl) (by kernel_rfl) (by kernel_rfl) (fun _ _ _ h => h) (Or.inl ⟨by rfl, fun w hSw => by first | (go_simp; done) | (go_simp; simp only [decide_eq_false_iff_not, beq_iff_eq, bne_self_eq_false]; omega) | (go_simp; simp [*]; done) | (go_simp; omega)⟩) hHd ?_
        try simp only [Act.put, List.setIfInBounds_toArray, List.set_cons_zero, List.set_cons_succ]
        refine wpAnyH_take (i := 43) (oi := { dst := some 66, op := Op.pick (Operand.tmp 54) (Operand.const (Value.bool true)) (Operand.tmp 65), type := 4, pos := "law.go:132", after := #[{ on := 31, ground := Ground.data }, { on := 42, ground := Ground.data }], guard := none }) (v := ?vv43_138) rfl (by kernel_rfl) (by kernel_rfl) (by kernel_rfl) (fun _ _ _ h => h) (Or.inl ⟨by rfl, ?hy43_138⟩) hHd ?rest43_138
        case hy43_138 =>
          intro w hSw
          go_simp
          try with_reducible rfl
        try simp only [Act.put, List.setIfInBounds_toArray, List.set_cons_zero, List.set_cons_succ]
        refine wpAnyH_done (by kernel_rfl) ?_ _
        go_wp2_with fail
        go_roundw
        case rel => (repeat apply Exists.intro); first | exact ⟨hi'.out, by go_num⟩ | exact ⟨hi'.out, by go_num, hbd⟩ | exact ⟨⟨hi'.out, by go_num, hbd⟩, rfl⟩
        case measure => have := hi'.out; simp [intOf]; omega
    · obtain rfl : L1 = i := by omega
      have hiz : ¬ (L1 : Int) < (L1 : Int) := by omega
      clear hi
      have hbr1 := hbr
      clear hbr
      go_wp2
      go_loopw [8] (fun s5 wr => ∃ i : Nat, i ≤ L2 ∧ s5 = .int .i64 i ∧ Hid (Below w3.heap.size w3 wr)) (fun s5 _ => L2 - (intOf s5).toNat)
      case atStart => exact ⟨0, Nat.zero_le _, rfl, hbr1⟩
      case round =>
        obtain ⟨i, hil, rfl, hbr⟩ := hrel
        by_cases hi : i < L2
        · have hiz : (i : Int) < (L2 : Int) := by omega
          have hi' := Lib.hid hi
          have hmx : L2 ≤ 17592186044416 := hx2.out
          have hwi : IntKind.i64.wrap ((i : Int) + 1) = (i : Int) + 1 := IntWalk.i64_in _ (by omega)
          obtain ⟨g, o, cp, hu, hR⟩ := hq2.out.form (by omega)
          simp only [Value.slice.injEq, true_and] at hu
          obtain ⟨rfl, rfl⟩ := hu
          have hgc : Hid (∀ w' j, Below wr.heap.size wr w' → j < L2 → w'.cell? ⟨g, o + j, none⟩ = some (.int .i64 (l2.getD j 0 : Nat))) := Lib.hid (fun w' j h hj => (hR.kept (S := fun _ => False) (.of_below (hbr.out.trans (h.mono hbr.out.size))) (fun e => e)).cell (nats_get (by rw [hn2.out]; exact hj)))
          have hm := Lib.hid ((hw2.out i hi).1)
          have hsr := Lib.hid ((hw2.out i hi).2)
          obtain ⟨b, off, hla, hlk1⟩ := (hbx3.out.below hbr.out).2.2.1.get hm.out
          have hlc : Hid (∀ w', Below wr.heap.size wr w' → w'.cell? ⟨B, 1, none⟩ = some (.slice (some ⟨b, off, none⟩) v.ll v.lc) ∧ w'.cell? ⟨b, off + (l2.getD i 0) * 4 + 1, none⟩ = some (.int .i64 n)) := Lib.hid (fun w' h => ⟨by rw [← hla]; exact ((hbx3.out.below hbr.out).below h).c1, by rw [← hsr.out]; exact (hlk1.below h).2.2.1⟩)
          have hbd : Hid (Below w3.heap.size w3 wr.drew) := hbr.out.drew
          have hyl : l2.getD i 0 < v.ll := hm.out
          rcases Nat.eq_zero_or_pos i with h0 | h0
          · subst h0
            have hlk : Hid (∀ w', Below wr.heap.size wr w' → w'.cell? ⟨B, 1, none⟩ = some (.slice (some ⟨b, off, none⟩) v.ll v.lc) ∧ w'.cell? ⟨b, off + (l2.getD 0 0) * 4 + 1, none⟩ = some (.int .i64 n) ∧ w'.cell? ⟨g, o, none⟩ = some (.int .i64 (l2.getD 0 0 : Nat))) := Lib.hid (fun w' h => ⟨(hlc.out w' h).1, (hlc.out w' h).2, hgc.out w' 0 h hi'.out⟩)
            generalize l2.getD 0 0 = y at hlk hyl
            have hyz : (y : Int) < (v.ll : Int) := by omega
            have hyz2 : ¬ (v.ll : Int) ≤ (y : Int) := by omega
            have hyn : ¬ v.ll ≤ y := by omega
            clear hgc hm hsr hlk1 hlc hR hla hi hbr
            go_upto_region 11 with fail
            refine wp_region_held_drew (S := fun w' => Below wr.heap.size wr w') (by kernel_rfl) ((Below.refl _ wr).drew) (fun hHeld => ?_)
            clear hHeld
            have hHd : Below wr.heap.size wr wr.drew := (Below.refl _ wr).drew
            refine wpAnyH_take (i := 0) (oi := { dst := some 73, op := Op.move (Operand.tmp 8), type := 3, pos := "law.go:137", after := #[], guard := none }) (v := ?vv0_1) rfl (by kernel_rfl) (by kernel_rfl) (by kernel_rfl) (fun _ _ _ h => h) (Or.inl ⟨by rfl, ?hy0_1⟩) hHd ?rest0_1
            case hy0_1 =>
              intro w hSw
              go_simp
              try with_reducible rfl
            try simp only [Act.put, List.setIfInBounds_toArray, List.set_cons_zero, List.set_cons_succ]
            refine wpAnyH_take (i := 1) (oi := { dst := some 74, op := Op.binOp BinOp.gtr 3 (Operand.tmp 73) (Operand.const (Value.int IntKind.i64 0)) 3, type := 4, pos := "law.go:137", after := #[{ on := 0, ground := Ground.data }], guard := none }) (v := .bool false) rfl (by kernel_rfl) (by kernel_rfl) (by kernel_rfl) (fun _ _ _ h => h) (Or.inl ⟨by rfl, fun w hSw => by first | (go_simp; done) | (go_simp; simp only [decide_eq_false_iff_not, beq_iff_eq, bne_self_eq_false]; omega) | (go_simp; simp [*]; done) | (go_simp; omega)⟩) hHd ?_
            try simp only [Act.put, List.setIfInBounds_toArray, List.set_cons_zero, List.set_cons_succ]
            refine wpAnyH_take (i := 2) (oi := { dst := some 75, op := Op.move (Operand.tmp 74), type := 4, pos := "law.go:137", after := #[{ on := 1, ground := Ground.data }], guard := none }) (v := ?vv2_2) rfl (by kernel_rfl) (by kernel_rfl) (by kernel_rfl) (fun _ _ _ h => h) (Or.inl ⟨by rfl, ?hy2_2⟩) hHd ?rest2_2
            case hy2_2 =>
              intro w hSw
              go_simp
              try with_reducible rfl
            try simp only [Act.put, List.setIfInBounds_toArray, List.set_cons_zero, List.set_cons_succ]
            refine wpAnyH_take (i := 3) (oi := { dst := some 76, op := Op.move (Operand.tmp 6), type := 52, pos := "law.go:137", after := #[{ on := 2, ground := Ground.guard }], guard := some (2, true) }) (v := undef) rfl (by kernel_rfl) (by kernel_rfl) (by kernel_rfl) (fun _ _ _ h => h) (Or.inr ⟨by rfl, rfl⟩) hHd ?_
            try simp only [Act.put, List.setIfInBounds_toArray, List.set_cons_zero, List.set_cons_succ]
            refine wpAnyH_take (i := 4) (oi := { dst := some 77, op := Op.move (Operand.tmp 8), type := 3, pos := "law.go:137", after := #[{ on := 2, ground := Ground.guard }], guard := some (2, true) }) (v := undef) rfl (by kernel_rfl) (by kernel_rfl) (by kernel_rfl) (fun _ _ _ h => h) (Or.inr ⟨by rfl, rfl⟩) hHd ?_
            try simp only [Act.put, List.setIfInBounds_toArray, List.set_cons_zero, List.set_cons_succ]
            refine wpAnyH_take (i := 5) (oi := { dst := some 78, op := Op.binOp BinOp.sub 3 (Operand.tmp 77) (Operand.const (Value.int IntKind.i64 1)) 3, type := 3, pos := "law.go:137", after := #[{ on := 4, ground := Ground.data }, { on := 2, ground := Ground.guard }], guard := some (2, true) }) (v := undef) rfl (by kernel_rfl) (by kernel_rfl) (by kernel_rfl) (fun _ _ _ h => h) (Or.inr ⟨by rfl, rfl⟩) hHd ?_
            try simp only [Act.put, List.setIfInBounds_toArray, List.set_cons_zero, List.set_cons_succ]
            refine wpAnyH_take (i := 6) (oi := { dst := some 79, op := Op.indexAddr 52 (Operand.tmp 76) (Operand.tmp 78), type := 0, pos := "law.go:137", after := #[{ on := 3, ground := Ground.data }, { on := 5, ground := Ground.data }, { on := 2, ground := Ground.guard }], guard := some (2, true) }) (v := undef) rfl (by kernel_rfl) (by kernel_rfl) (by kernel_rfl) (fun _ _ _ h => h) (Or.inr ⟨by rfl, rfl⟩) hHd ?_
            try simp only [Act.put, List.setIfInBounds_toArray, List.set_cons_zero, List.set_cons_succ]
            refine wpAnyH_take (i := 7) (oi := { dst := some 80, op := Op.load 3 (Operand.tmp 79), type := 3, pos := "law.go:137", after := #[{ on := 6, ground := Ground.data }, { on := 2, ground := Ground.guard }], guard := some (2, true) }) (v := undef) rfl (by kernel_rfl) (by kernel_rfl) (by kernel_rfl) (fun _ _ _ h => h) (Or.inr ⟨by rfl, rfl⟩) hHd ?_
            try simp only [Act.put, List.setIfInBounds_toArray, List.set_cons_zero, List.set_cons_succ]
            refine wpAnyH_take (i := 8) (oi := { dst := some 81, op := Op.move (Operand.tmp 6), type := 52, pos := "law.go:137", after := #[{ on := 2, ground := Ground.guard }], guard := some (2, true) }) (v := undef) rfl (by kernel_rfl) (by kernel_rfl) (by kernel_rfl) (fun _ _ _ h => h) (Or.inr ⟨by rfl, rfl⟩) hHd ?_
            try simp only [Act.put, List.setIfInBounds_toArray, List.set_cons_zero, List.set_cons_succ]
            refine wpAnyH_take (i := 9) (oi := { dst := some 82, op := Op.move (Operand.tmp 8), type := 3, pos := "law.go:137", after := #[{ on := 2, ground := Ground.guard }], guard := some (2, true) }) (v := undef) rfl (by kernel_rfl) (by kernel_rfl) (by kernel_rfl) (fun _ _ _ h => h) (Or.inr ⟨by rfl, rfl⟩) hHd ?_
            try simp only [Act.put, List.setIfInBounds_toArray, List.set_cons_zero, List.set_cons_succ]
            refine wpAnyH_take (i := 10) (oi := { dst := some 83, op := Op.indexAddr 52 (Operand.tmp 81) (Operand.tmp 82), type := 0, pos := "law.go:137", after := #[{ on := 8, ground := Ground.data }, { on := 9, ground := Ground.data }, { on := 2, ground := Ground.guard }], guard := some (2, true) }) (v := undef) rfl (by kernel_rfl) (by kernel_rfl) (by kernel_rfl) (fun _ _ _ h => h) (Or.inr ⟨by rfl, rfl⟩) hHd ?_
            try simp only [Act.put, List.setIfInBounds_toArray, List.set_cons_zero, List.set_cons_succ]
            refine wpAnyH_take (i := 11) (oi := { dst := some 84, op := Op.load 3 (Operand.tmp 83), type := 3, pos := "law.go:137", after := #[{ on := 10, ground := Ground.data }, { on := 2, ground := Ground.guard }], guard := some (2, true) }) (v := undef) rfl (by kernel_rfl) (by kernel_rfl) (by kernel_rfl) (fun _ _ _ h => h) (Or.inr ⟨by rfl, rfl⟩) hHd ?_
            try simp only [Act.put, List.setIfInBounds_toArray, List.set_cons_zero, List.set_cons_succ]
            refine wpAnyH_take (i := 12) (oi := { dst := some 85, op := Op.binOp BinOp.geq 3 (Operand.tmp 80) (Operand.tmp 84) 3, type := 4, pos := "law.go:137", after := #[{ on := 7, ground := Ground.data }, { on := 11, ground := Ground.data }, { on := 2, ground := Ground.guard }], guard := some (2, true) }) (v := undef) rfl (by kernel_rfl) (by kernel_rfl) (by kernel_rfl) (fun _ _ _ h => h) (Or.inr ⟨by rfl, rfl⟩) hHd ?_
            try simp only [Act.put, List.setIfInBounds_toArray, List.set_cons_zero, List.set_cons_succ]
            refine wpAnyH_take (i := 13) (oi := { dst := some 86, op := Op.pick (Operand.tmp 75) (Operand.tmp 85) (Operand.const (Value.bool false)), type := 4, pos := "law.go:137", after := #[{ on := 2, ground := Ground.data }, { on := 12, ground := Ground.data }], guard := none }) (v := ?vv13_3) rfl (by kernel_rfl) (by kernel_rfl) (by kernel_rfl) (fun _ _ _ h => h) (Or.inl ⟨by rfl, ?hy13_3⟩) hHd ?rest13_3
            case hy13_3 =>
              intro w hSw
              go_simp
              try with_reducible rfl
            try simp only [Act.put, List.setIfInBounds_toArray, List.set_cons_zero, List.set_cons_succ]
            refine wpAnyH_take (i := 14) (oi := { dst := some 87, op := Op.move (Operand.tmp 86), type := 4, pos := "law.go:137", after := #[{ on := 13, ground := Ground.data }, { on := 2, ground := Ground.chain }], guard := none }) (v := ?vv14_4) rfl (by kernel_rfl) (by kernel_rfl) (by kernel_rfl) (fun _ _ _ h => h) (Or.inl ⟨by rfl, ?hy14_4⟩) hHd ?rest14_4
            case hy14_4 =>
              intro w hSw
              go_simp
              try with_reducible rfl
            try simp only [Act.put, List.setIfInBounds_toArray, List.set_cons_zero, List.set_cons_succ]
            refine wpAnyH_take (i := 15) (oi := { dst := some 88, op := Op.move (Operand.tmp 6), type := 52, pos := "law.go:137", after := #[{ on := 14, ground := Ground.guard }], guard := some (14, false) }) (v := ?vv15_5) rfl (by kernel_rfl) (by kernel_rfl) (by kernel_rfl) (fun _ _ _ h => h) (Or.inl ⟨by rfl, ?hy15_5⟩) hHd ?rest15_5
            case hy15_5 =>
              intro w hSw
              go_simp
              try with_reducible rfl
            try simp only [Act.put, List.setIfInBounds_toArray, List.set_cons_zero, List.set_cons_succ]
            refine wpAnyH_take (i := 16) (oi := { dst := some 89, op := Op.move (Operand.tmp 8), type := 3, pos := "law.go:137", after := #[{ on := 14, ground := Ground.guard }], guard := some (14, false) }) (v := ?vv16_6) rfl (by kernel_rfl) (by kernel_rfl) (by kernel_rfl) (fun _ _ _ h => h) (Or.inl ⟨by rfl, ?hy16_6⟩) hHd ?rest16_6
            case hy16_6 =>
              intro w hSw
              go_simp
              try with_reducible rfl
            try simp only [Act.put, List.setIfInBounds_toArray, List.set_cons_zero, List.set_cons_succ]
            refine wpAnyH_take (i := 17) (oi := { dst := some 90, op := Op.indexAddr 52 (Operand.tmp 88) (Operand.tmp 89), type := 0, pos := "law.go:137", after := #[{ on := 15, ground := Ground.data }, { on := 16, ground := Ground.data }, { on := 14, ground := Ground.guard }], guard := some (14, false) }) (v := ?vv17_7) rfl (by kernel_rfl) (by kernel_rfl) (by kernel_rfl) (fun _ _ _ h => h) (Or.inl ⟨by rfl, ?hy17_7⟩) hHd ?rest17_7
            case hy17_7 =>
              intro w hSw
              go_simp
              try with_reducible rfl
            try simp only [Act.put, List.setIfInBounds_toArray, List.set_cons_zero, List.set_cons_succ]
            refine wpAnyH_take (i := 18) (oi := { dst := some 91, op := Op.load 3 (Operand.tmp 90), type := 3, pos := "law.go:137", after := #[{ on := 17, ground := Ground.data }, { on := 14, ground := Ground.guard }], guard := some (14, false) }) (v := ?vv18_8) rfl (by kernel_rfl) (by kernel_rfl) (by kernel_rfl) (fun _ _ _ h => h) (Or.inl ⟨by rfl, ?hy18_8⟩) hHd ?rest18_8
            case hy18_8 =>
              intro w hSw
              have hQ := hlk.out w hSw
              have hQ0 := hQ.1
              have hQ1 := hQ.2.1
              have hQ2 := hQ.2.2
              go_simp
              try with_reducible rfl
            try simp only [Act.put, List.setIfInBounds_toArray, List.set_cons_zero, List.set_cons_succ]
            refine wpAnyH_take (i := 19) (oi := { dst := some 92, op := Op.binOp BinOp.lss 3 (Operand.tmp 91) (Operand.const (Value.int IntKind.i64 0)) 3, type := 4, pos := "law.go:137", after := #[{ on := 18, ground := Ground.data }, { on := 14, ground := Ground.guard }], guard := some (14, false) }) (v := .bool false) rfl (by kernel_rfl) (by kernel_rfl) (by kernel_rfl) (fun _ _ _ h => h) (Or.inl ⟨by rfl, fun w hSw => by first | (go_simp; done) | (go_simp; simp only [decide_eq_false_iff_not, beq_iff_eq, bne_self_eq_false]; omega) | (go_simp; simp [*]; done) | (go_simp; omega)⟩) hHd ?_
            try simp only [Act.put, List.setIfInBounds_toArray, List.set_cons_zero, List.set_cons_succ]
            refine wpAnyH_take (i := 20) (oi := { dst := some 93, op := Op.pick (Operand.tmp 87) (Operand.const (Value.bool true)) (Operand.tmp 92), type := 4, pos := "law.go:137", after := #[{ on := 14, ground := Ground.data }, { on := 19, ground := Ground.data }], guard := none }) (v := ?vv20_9) rfl (by kernel_rfl) (by kernel_rfl) (by kernel_rfl) (fun _ _ _ h => h) (Or.inl ⟨by rfl, ?hy20_9⟩) hHd ?rest20_9
            case hy20_9 =>
              intro w hSw
              go_simp
              try with_reducible rfl
            try simp only [Act.put, List.setIfInBounds_toArray, List.set_cons_zero, List.set_cons_succ]
            refine wpAnyH_take (i := 21) (oi := { dst := some 94, op := Op.move (Operand.tmp 93), type := 4, pos := "law.go:137", after := #[{ on := 20, ground := Ground.data }, { on := 14, ground := Ground.chain }], guard := none }) (v := ?vv21_10) rfl (by kernel_rfl) (by kernel_rfl) (by kernel_rfl) (fun _ _ _ h => h) (Or.inl ⟨by rfl, ?hy21_10⟩) hHd ?rest21_10
            case hy21_10 =>
              intro w hSw
              go_simp
              try with_reducible rfl
            try simp only [Act.put, List.setIfInBounds_toArray, List.set_cons_zero, List.set_cons_succ]
            refine wpAnyH_take (i := 22) (oi := { dst := some 95, op := Op.move (Operand.tmp 6), type := 52, pos := "law.go:137", after := #[{ on := 21, ground := Ground.guard }], guard := some (21, false) }) (v := ?vv22_11) rfl (by kernel_rfl) (by kernel_rfl) (by kernel_rfl) (fun _ _ _ h => h) (Or.inl ⟨by rfl, ?hy22_11⟩) hHd ?rest22_11
            case hy22_11 =>
              intro w hSw
              go_simp
              try with_reducible rfl
            try simp only [Act.put, List.setIfInBounds_toArray, List.set_cons_zero, List.set_cons_succ]
            refine wpAnyH_take (i := 23) (oi := { dst := some 96, op := Op.move (Operand.tmp 8), type := 3, pos := "law.go:137", after := #[{ on := 21, ground := Ground.guard }], guard := some (21, false) }) (v := ?vv23_12) rfl (by kernel_rfl) (by kernel_rfl) (by kernel_rfl) (fun _ _ _ h => h) (Or.inl ⟨by rfl, ?hy23_12⟩) hHd ?rest23_12
            case hy23_12 =>
              intro w hSw
              go_simp
              try with_reducible rfl
            try simp only [Act.put, List.setIfInBounds_toArray, List.set_cons_zero, List.set_cons_succ]
            refine wpAnyH_take (i := 24) (oi := { dst := some 97, op := Op.indexAddr 52 (Operand.tmp 95) (Operand.tmp 96), type := 0, pos := "law.go:137", after := #[{ on := 22, ground := Ground.data }, { on := 23, ground := Ground.data }, { on := 21, ground := Ground.guard }], guard := some (21, false) }) (v := ?vv24_13) rfl (by kernel_rfl) (by kernel_rfl) (by kernel_rfl) (fun _ _ _ h => h) (Or.inl ⟨by rfl, ?hy24_13⟩) hHd ?rest24_13
            case hy24_13 =>
              intro w hSw
              go_simp
              try with_reducible rfl
            try simp only [Act.put, List.setIfInBounds_toArray, List.set_cons_zero, List.set_cons_succ]
            refine wpAnyH_take (i := 25) (oi := { dst := some 98, op := Op.load 3 (Operand.tmp 97), type := 3, pos := "law.go:137", after := #[{ on := 24, ground := Ground.data }, { on := 21, ground := Ground.guard }], guard := some (21, false) }) (v := ?vv25_14) rfl (by kernel_rfl) (by kernel_rfl) (by kernel_rfl) (fun _ _ _ h => h) (Or.inl ⟨by rfl, ?hy25_14⟩) hHd ?rest25_14
            case hy25_14 =>
              intro w hSw
              have hQ := hlk.out w hSw
              have hQ0 := hQ.1
              have hQ1 := hQ.2.1
              have hQ2 := hQ.2.2
              go_simp
              try with_reducible rfl
            try simp only [Act.put, List.setIfInBounds_toArray, List.set_cons_zero, List.set_cons_succ]
            refine wpAnyH_take (i := 26) (oi := { dst := some 99, op := Op.fieldAddr 27 (Operand.tmp 2) 1, type := 0, pos := "law.go:137", after := #[{ on := 21, ground := Ground.guard }], guard := some (21, false) }) (v := ?vv26_15) rfl (by kernel_rfl) (by kernel_rfl) (by kernel_rfl) (fun _ _ _ h => h) (Or.inl ⟨by rfl, ?hy26_15⟩) hHd ?rest26_15
            case hy26_15 =>
              intro w hSw
              go_simp
              try with_reducible rfl
            try simp only [Act.put, List.setIfInBounds_toArray, List.set_cons_zero, List.set_cons_succ]
            refine wpAnyH_take (i := 27) (oi := { dst := some 100, op := Op.load 23 (Operand.tmp 99), type := 23, pos := "law.go:137", after := #[{ on := 26, ground := Ground.data }, { on := 21, ground := Ground.guard }], guard := some (21, false) }) (v := ?vv27_16) rfl (by kernel_rfl) (by kernel_rfl) (by kernel_rfl) (fun _ _ _ h => h) (Or.inl ⟨by rfl, ?hy27_16⟩) hHd ?rest27_16
            case hy27_16 =>
              intro w hSw
              have hQ := hlk.out w hSw
              have hQ0 := hQ.1
              have hQ1 := hQ.2.1
              have hQ2 := hQ.2.2
              go_simp
              try with_reducible rfl
            try simp only [Act.put, List.setIfInBounds_toArray, List.set_cons_zero, List.set_cons_succ]
            refine wpAnyH_take (i := 28) (oi := { dst := some 101, op := Op.call { callee := Callee.builtin Builtin.len, args := #[Operand.tmp 100], argTypes := #[23] }, type := 3, pos := "law.go:137", after := #[{ on := 27, ground := Ground.data }, { on := 21, ground := Ground.guard }], guard := some (21, false) }) (v := ?vv28_17) rfl (by kernel_rfl) (by kernel_rfl) (by kernel_rfl) (fun _ _ _ h => h) (Or.inl ⟨by rfl, ?hy28_17⟩) hHd ?rest28_17
            case hy28_17 =>
              intro w hSw
              go_simp
              try with_reducible rfl
            try simp only [Act.put, List.setIfInBounds_toArray, List.set_cons_zero, List.set_cons_succ]
            refine wpAnyH_take (i := 29) (oi := { dst := some 102, op := Op.binOp BinOp.geq 3 (Operand.tmp 98) (Operand.tmp 101) 3, type := 4, pos := "law.go:137", after := #[{ on := 25, ground := Ground.data }, { on := 28, ground := Ground.data }, { on := 21, ground := Ground.guard }], guard := some (21, false) }) (v := .bool false) rfl (by kernel_rfl) (by kernel_rfl) (by kernel_rfl) (fun _ _ _ h => h) (Or.inl ⟨by rfl, fun w hSw => by first | (go_simp; done) | (go_simp; simp only [decide_eq_false_iff_not, beq_iff_eq, bne_self_eq_false]; omega) | (go_simp; simp [*]; done) | (go_simp; omega)⟩) hHd ?_
            try simp only [Act.put, List.setIfInBounds_toArray, List.set_cons_zero, List.set_cons_succ]
            refine wpAnyH_take (i := 30) (oi := { dst := some 103, op := Op.pick (Operand.tmp 94) (Operand.const (Value.bool true)) (Operand.tmp 102), type := 4, pos := "law.go:137", after := #[{ on := 21, ground := Ground.data }, { on := 29, ground := Ground.data }], guard := none }) (v := ?vv30_18) rfl (by kernel_rfl) (by kernel_rfl) (by kernel_rfl) (fun _ _ _ h => h) (Or.inl ⟨by rfl, ?hy30_18⟩) hHd ?rest30_18
            case hy30_18 =>
              intro w hSw
              go_simp
              try with_reducible rfl
            try simp only [Act.put, List.setIfInBounds_toArray, List.set_cons_zero, List.set_cons_succ]
            refine wpAnyH_take (i := 31) (oi := { dst := some 104, op := Op.move (Operand.tmp 103), type := 4, pos := "law.go:137", after := #[{ on := 30, ground := Ground.data }, { on := 21, ground := Ground.chain }], guard := none }) (v := ?vv31_19) rfl (by kernel_rfl) (by kernel_rfl) (by kernel_rfl) (fun _ _ _ h => h) (Or.inl ⟨by rfl, ?hy31_19⟩) hHd ?rest31_19
            case hy31_19 =>
              intro w hSw
              go_simp
              try with_reducible rfl
            try simp only [Act.put, List.setIfInBounds_toArray, List.set_cons_zero, List.set_cons_succ]
            refine wpAnyH_take (i := 32) (oi := { dst := some 105, op := Op.fieldAddr 27 (Operand.tmp 2) 1, type := 0, pos := "law.go:137", after := #[{ on := 31, ground := Ground.guard }], guard := some (31, false) }) (v := ?vv32_20) rfl (by kernel_rfl) (by kernel_rfl) (by kernel_rfl) (fun _ _ _ h => h) (Or.inl ⟨by rfl, ?hy32_20⟩) hHd ?rest32_20
            case hy32_20 =>
              intro w hSw
              go_simp
              try with_reducible rfl
            try simp only [Act.put, List.setIfInBounds_toArray, List.set_cons_zero, List.set_cons_succ]
            refine wpAnyH_take (i := 33) (oi := { dst := some 106, op := Op.load 23 (Operand.tmp 105), type := 23, pos := "law.go:137", after := #[{ on := 32, ground := Ground.data }, { on := 31, ground := Ground.guard }], guard := some (31, false) }) (v := ?vv33_21) rfl (by kernel_rfl) (by kernel_rfl) (by kernel_rfl) (fun _ _ _ h => h) (Or.inl ⟨by rfl, ?hy33_21⟩) hHd ?rest33_21
            case hy33_21 =>
              intro w hSw
              have hQ := hlk.out w hSw
              have hQ0 := hQ.1
              have hQ1 := hQ.2.1
              have hQ2 := hQ.2.2
              go_simp
              try with_reducible rfl
            try simp only [Act.put, List.setIfInBounds_toArray, List.set_cons_zero, List.set_cons_succ]
            refine wpAnyH_take (i := 34) (oi := { dst := some 107, op := Op.move (Operand.tmp 6), type := 52, pos := "law.go:137", after := #[{ on := 31, ground := Ground.guard }], guard := some (31, false) }) (v := ?vv34_22) rfl (by kernel_rfl) (by kernel_rfl) (by kernel_rfl) (fun _ _ _ h => h) (Or.inl ⟨by rfl, ?hy34_22⟩) hHd ?rest34_22
            case hy34_22 =>
              intro w hSw
              go_simp
              try with_reducible rfl
            try simp only [Act.put, List.setIfInBounds_toArray, List.set_cons_zero, List.set_cons_succ]
            refine wpAnyH_take (i := 35) (oi := { dst := some 108, op := Op.move (Operand.tmp 8), type := 3, pos := "law.go:137", after := #[{ on := 31, ground := Ground.guard }], guard := some (31, false) }) (v := ?vv35_23) rfl (by kernel_rfl) (by kernel_rfl) (by kernel_rfl) (fun _ _ _ h => h) (Or.inl ⟨by rfl, ?hy35_23⟩) hHd ?rest35_23
            case hy35_23 =>
              intro w hSw
              go_simp
              try with_reducible rfl
            try simp only [Act.put, List.setIfInBounds_toArray, List.set_cons_zero, List.set_cons_succ]
            refine wpAnyH_take (i := 36) (oi := { dst := some 109, op := Op.indexAddr 52 (Operand.tmp 107) (Operand.tmp 108), type := 0, pos := "law.go:137", after := #[{ on := 34, ground := Ground.data }, { on := 35, ground := Ground.data }, { on := 31, ground := Ground.guard }], guard := some (31, false) }) (v := ?vv36_24) rfl (by kernel_rfl) (by kernel_rfl) (by kernel_rfl) (fun _ _ _ h => h) (Or.inl ⟨by rfl, ?hy36_24⟩) hHd ?rest36_24
            case hy36_24 =>
              intro w hSw
              go_simp
              try with_reducible rfl
            try simp only [Act.put, List.setIfInBounds_toArray, List.set_cons_zero, List.set_cons_succ]
            refine wpAnyH_take (i := 37) (oi := { dst := some 110, op := Op.load 3 (Operand.tmp 109), type := 3, pos := "law.go:137", after := #[{ on := 36, ground := Ground.data }, { on := 31, ground := Ground.guard }], guard := some (31, false) }) (v := ?vv37_25) rfl (by kernel_rfl) (by kernel_rfl) (by kernel_rfl) (fun _ _ _ h => h) (Or.inl ⟨by rfl, ?hy37_25⟩) hHd ?rest37_25
            case hy37_25 =>
              intro w hSw
              have hQ := hlk.out w hSw
              have hQ0 := hQ.1
              have hQ1 := hQ.2.1
              have hQ2 := hQ.2.2
              go_simp
              try with_reducible rfl
            try simp only [Act.put, List.setIfInBounds_toArray, List.set_cons_zero, List.set_cons_succ]
            refine wpAnyH_take (i := 38) (oi := { dst := some 111, op := Op.indexAddr 23 (Operand.tmp 106) (Operand.tmp 110), type := 0, pos := "law.go:137", after := #[{ on := 33, ground := Ground.data }, { on := 37, ground := Ground.data }, { on := 31, ground := Ground.guard }], guard := some (31, false) }) (v := ?vv38_26) rfl (by kernel_rfl) (by kernel_rfl) (by kernel_rfl) (fun _ _ _ h => h) (Or.inl ⟨by rfl, ?hy38_26⟩) hHd ?rest38_26
            case hy38_26 =>
              intro w hSw
              go_simp
              try with_reducible rfl
            try simp only [Act.put, List.setIfInBounds_toArray, List.set_cons_zero, List.set_cons_succ]
            refine wpAnyH_take (i := 39) (oi := { dst := some 112, op := Op.fieldAddr 43 (Operand.tmp 111) 1, type := 0, pos := "law.go:137", after := #[{ on := 38, ground := Ground.data }, { on := 31, ground := Ground.guard }], guard := some (31, false) }) (v := ?vv39_27) rfl (by kernel_rfl) (by kernel_rfl) (by kernel_rfl) (fun _ _ _ h => h) (Or.inl ⟨by rfl, ?hy39_27⟩) hHd ?rest39_27
            case hy39_27 =>
              intro w hSw
              go_simp
              try with_reducible rfl
            try simp only [Act.put, List.setIfInBounds_toArray, List.set_cons_zero, List.set_cons_succ]
            refine wpAnyH_take (i := 40) (oi := { dst := some 113, op := Op.load 3 (Operand.tmp 112), type := 3, pos := "law.go:137", after := #[{ on := 39, ground := Ground.data }, { on := 31, ground := Ground.guard }], guard := some (31, false) }) (v := ?vv40_28) rfl (by kernel_rfl) (by kernel_rfl) (by kernel_rfl) (fun _ _ _ h => h) (Or.inl ⟨by rfl, ?hy40_28⟩) hHd ?rest40_28
            case hy40_28 =>
              intro w hSw
              have hQ := hlk.out w hSw
              have hQ0 := hQ.1
              have hQ1 := hQ.2.1
              have hQ2 := hQ.2.2
              go_simp
              try with_reducible rfl
            try simp only [Act.put, List.setIfInBounds_toArray, List.set_cons_zero, List.set_cons_succ]
            refine wpAnyH_take (i := 41) (oi := { dst := some 114, op := Op.move (Operand.tmp 1), type := 3, pos := "law.go:137", after := #[{ on := 31, ground := Ground.guard }], guard := some (31, false) }) (v := ?vv41_29) rfl (by kernel_rfl) (by kernel_rfl) (by kernel_rfl) (fun _ _ _ h => h) (Or.inl ⟨by rfl, ?hy41_29⟩) hHd ?rest41_29
            case hy41_29 =>
              intro w hSw
              go_simp
              try with_reducible rfl
            try simp only [Act.put, List.setIfInBounds_toArray, List.set_cons_zero, List.set_cons_succ]
            refine wpAnyH_take (i := 42) (oi := { dst := some 115, op := Op.binOp BinOp.neq 3 (Operand.tmp 113) (Operand.tmp 114) 3, type := 4, pos := "law.go:137", after := #[{ on := 40, ground := Ground.data }, { on := 41, ground := Ground.data }, { on := 31, ground := Ground.guard }], guard := some (31, false) }) (v := .bool false) rfl (by kernel_rfl) (by kernel_rfl) (by kernel_rfl) (fun _ _ _ h => h) (Or.inl ⟨by rfl, fun w hSw => by first | (go_simp; done) | (go_simp; simp only [decide_eq_false_iff_not, beq_iff_eq, bne_self_eq_false]; omega) | (go_simp; simp [*]; done) | (go_simp; omega)⟩) hHd ?_
            try simp only [Act.put, List.setIfInBounds_toArray, List.set_cons_zero, List.set_cons_succ]
            refine wpAnyH_take (i := 43) (oi := { dst := some 116, op := Op.pick (Operand.tmp 104) (Operand.const (Value.bool true)) (Operand.tmp 115), type := 4, pos := "law.go:137", after := #[{ on := 31, ground := Ground.data }, { on := 42, ground := Ground.data }], guard := none }) (v := ?vv43_30) rfl (by kernel_rfl) (by kernel_rfl) (by kernel_rfl) (fun _ _ _ h => h) (Or.inl ⟨by rfl, ?hy43_30⟩) hHd ?rest43_30
            case hy43_30 =>
              intro w hSw
              go_simp
              try with_reducible rfl
            try simp only [Act.put, List.setIfInBounds_toArray, List.set_cons_zero, List.set_cons_succ]
            refine wpAnyH_done (by kernel_rfl) ?_ _
            go_wp2_with fail
            go_roundw
            case rel => (repeat apply Exists.intro); first | exact ⟨hi'.out, by go_num⟩ | exact ⟨hi'.out, by go_num, hbd⟩ | exact ⟨⟨hi'.out, by go_num, hbd⟩, rfl⟩
            case measure => have := hi'.out; simp [intOf]; omega
          · obtain ⟨k, hk⟩ : ∃ k : Nat, i = k + 1 := ⟨i - 1, by omega⟩
            have hwk : IntKind.i64.wrap ((i : Int) - 1) = (k : Int) := by rw [IntWalk.i64_in _ (by omega)]; omega
            have hkl : k < L2 := by omega
            have hkz : (k : Int) < (L2 : Int) := by omega
            have hi0 : (0 : Int) < (i : Int) := by omega
            have hlt := hp2.out k (by omega)
            rw [← hk] at hlt
            have hlk : Hid (∀ w', Below wr.heap.size wr w' → w'.cell? ⟨B, 1, none⟩ = some (.slice (some ⟨b, off, none⟩) v.ll v.lc) ∧ w'.cell? ⟨b, off + (l2.getD i 0) * 4 + 1, none⟩ = some (.int .i64 n) ∧ w'.cell? ⟨g, o + i, none⟩ = some (.int .i64 (l2.getD i 0 : Nat)) ∧ w'.cell? ⟨g, o + k, none⟩ = some (.int .i64 (l2.getD k 0 : Nat))) := Lib.hid (fun w' h => ⟨(hlc.out w' h).1, (hlc.out w' h).2, hgc.out w' i h hi'.out, hgc.out w' k h (by have := hi'.out; omega)⟩)
            generalize l2.getD i 0 = y at hlk hyl hlt
            generalize l2.getD k 0 = x at hlk hlt
            have hyz : (y : Int) < (v.ll : Int) := by omega
            have hyz2 : ¬ (v.ll : Int) ≤ (y : Int) := by omega
            have hyn : ¬ v.ll ≤ y := by omega
            have hxy : ¬ (y : Int) ≤ (x : Int) := by omega
            have hxn : ¬ y ≤ x := by omega
            clear hgc hm hsr hlk1 hlc hR hla hi hbr hk
            go_upto_region 11 with fail
            refine wp_region_held_drew (S := fun w' => Below wr.heap.size wr w') (by kernel_rfl) ((Below.refl _ wr).drew) (fun hHeld => ?_)
            clear hHeld
            have hHd : Below wr.heap.size wr wr.drew := (Below.refl _ wr).drew
            refine wpAnyH_take (i := 0) (oi := { dst := some 73, op := Op.move (Operand.tmp 8), type := 3, pos := "law.go:137", after := #[], guard := none }) (v := ?vv0_31) rfl (by kernel_rfl) (by kernel_rfl) (by kernel_rfl) (fun _ _ _ h => h) (Or.inl ⟨by rfl, ?hy0_31⟩) hHd ?rest0_31
            case hy0_31 =>
              intro w hSw
              go_simp
              try with_reducible rfl
            try simp only [Act.put, List.setIfInBounds_toArray, List.set_cons_zero, List.set_cons_succ]
            refine wpAnyH_take (i := 1) (oi := { dst := some 74, op := Op.binOp BinOp.gtr 3 (Operand.tmp 73) (Operand.const (Value.int IntKind.i64 0)) 3, type := 4, pos := "law.go:137", after := #[{ on := 0, ground := Ground.data }], guard := none }) (v := .bool true) rfl (by kernel_rfl) (by kernel_rfl) (by kernel_rfl) (fun _ _ _ h => h) (Or.inl ⟨by rfl, fun w hSw => by first | (go_simp; done) | (go_simp; simp only [decide_eq_true_eq, beq_iff_eq, bne_self_eq_false]; omega) | (go_simp; simp [*]; done) | (go_simp; omega)⟩) hHd ?_
            try simp only [Act.put, List.setIfInBounds_toArray, List.set_cons_zero, List.set_cons_succ]
            refine wpAnyH_take (i := 2) (oi := { dst := some 75, op := Op.move (Operand.tmp 74), type := 4, pos := "law.go:137", after := #[{ on := 1, ground := Ground.data }], guard := none }) (v := ?vv2_32) rfl (by kernel_rfl) (by kernel_rfl) (by kernel_rfl) (fun _ _ _ h => h) (Or.inl ⟨by rfl, ?hy2_32⟩) hHd ?rest2_32
            case hy2_32 =>
              intro w hSw
              go_simp
              try with_reducible rfl
            try simp only [Act.put, List.setIfInBounds_toArray, List.set_cons_zero, List.set_cons_succ]
            refine wpAnyH_take (i := 3) (oi := { dst := some 76, op := Op.move (Operand.tmp 6), type := 52, pos := "law.go:137", after := #[{ on := 2, ground := Ground.guard }], guard := some (2, true) }) (v := ?vv3_33) rfl (by kernel_rfl) (by kernel_rfl) (by kernel_rfl) (fun _ _ _ h => h) (Or.inl ⟨by rfl, ?hy3_33⟩) hHd ?rest3_33
            case hy3_33 =>
              intro w hSw
              go_simp
              try with_reducible rfl
            try simp only [Act.put, List.setIfInBounds_toArray, List.set_cons_zero, List.set_cons_succ]
            refine wpAnyH_take (i := 4) (oi := { dst := some 77, op := Op.move (Operand.tmp 8), type := 3, pos := "law.go:137", after := #[{ on := 2, ground := Ground.guard }], guard := some (2, true) }) (v := ?vv4_34) rfl (by kernel_rfl) (by kernel_rfl) (by kernel_rfl) (fun _ _ _ h => h) (Or.inl ⟨by rfl, ?hy4_34⟩) hHd ?rest4_34
            case hy4_34 =>
              intro w hSw
              go_simp
              try with_reducible rfl
            try simp only [Act.put, List.setIfInBounds_toArray, List.set_cons_zero, List.set_cons_succ]
            refine wpAnyH_take (i := 5) (oi := { dst := some 78, op := Op.binOp BinOp.sub 3 (Operand.tmp 77) (Operand.const (Value.int IntKind.i64 1)) 3, type := 3, pos := "law.go:137", after := #[{ on := 4, ground := Ground.data }, { on := 2, ground := Ground.guard }], guard := some (2, true) }) (v := ?vv5_35) rfl (by kernel_rfl) (by kernel_rfl) (by kernel_rfl) (fun _ _ _ h => h) (Or.inl ⟨by rfl, ?hy5_35⟩) hHd ?rest5_35
            case hy5_35 =>
              intro w hSw
              go_simp
              try with_reducible rfl
            try simp only [Act.put, List.setIfInBounds_toArray, List.set_cons_zero, List.set_cons_succ]
            refine wpAnyH_take (i := 6) (oi := { dst := some 79, op := Op.indexAddr 52 (Operand.tmp 76) (Operand.tmp 78), type := 0, pos := "law.go:137", after := #[{ on := 3, ground := Ground.data }, { on := 5, ground := Ground.data }, { on := 2, ground := Ground.guard }], guard := some (2, true) }) (v := ?vv6_36) rfl (by kernel_rfl) (by kernel_rfl) (by kernel_rfl) (fun _ _ _ h => h) (Or.inl ⟨by rfl, ?hy6_36⟩) hHd ?rest6_36
            case hy6_36 =>
              intro w hSw
              go_simp
              try with_reducible rfl
            try simp only [Act.put, List.setIfInBounds_toArray, List.set_cons_zero, List.set_cons_succ]
            refine wpAnyH_take (i := 7) (oi := { dst := some 80, op := Op.load 3 (Operand.tmp 79), type := 3, pos := "law.go:137", after := #[{ on := 6, ground := Ground.data }, { on := 2, ground := Ground.guard }], guard := some (2, true) }) (v := ?vv7_37) rfl (by kernel_rfl) (by kernel_rfl) (by kernel_rfl) (fun _ _ _ h => h) (Or.inl ⟨by rfl, ?hy7_37⟩) hHd ?rest7_37
            case hy7_37 =>
              intro w hSw
              have hQ := hlk.out w hSw
              have hQ0 := hQ.1
              have hQ1 := hQ.2.1
              have hQ2 := hQ.2.2.1
              have hQ3 := hQ.2.2.2
              go_simp
              try with_reducible rfl
            try simp only [Act.put, List.setIfInBounds_toArray, List.set_cons_zero, List.set_cons_succ]
            refine wpAnyH_take (i := 8) (oi := { dst := some 81, op := Op.move (Operand.tmp 6), type := 52, pos := "law.go:137", after := #[{ on := 2, ground := Ground.guard }], guard := some (2, true) }) (v := ?vv8_38) rfl (by kernel_rfl) (by kernel_rfl) (by kernel_rfl) (fun _ _ _ h => h) (Or.inl ⟨by rfl, ?hy8_38⟩) hHd ?rest8_38
            case hy8_38 =>
              intro w hSw
              go_simp
              try with_reducible rfl
            try simp only [Act.put, List.setIfInBounds_toArray, List.set_cons_zero, List.set_cons_succ]
            refine wpAnyH_take (i := 9) (oi := { dst := some 82, op := Op.move (Operand.tmp 8), type := 3, pos := "law.go:137", after := #[{ on := 2, ground := Ground.guard }], guard := some (2, true) }) (v := ?vv9_39) rfl (by kernel_rfl) (by kernel_rfl) (by kernel_rfl) (fun _ _ _ h => h) (Or.inl ⟨by rfl, ?hy9_39⟩) hHd ?rest9_39
            case hy9_39 =>
              intro w hSw
              go_simp
              try with_reducible rfl
            try simp only [Act.put, List.setIfInBounds_toArray, List.set_cons_zero, List.set_cons_succ]
            refine wpAnyH_take (i := 10) (oi := { dst := some 83, op := Op.indexAddr 52 (Operand.tmp 81) (Operand.tmp 82), type := 0, pos := "law.go:137", after := #[{ on := 8, ground := Ground.data }, { on := 9, ground := Ground.data }, { on := 2, ground := Ground.guard }], guard := some (2, true) }) (v := ?vv10_40) rfl (by kernel_rfl) (by kernel_rfl) (by kernel_rfl) (fun _ _ _ h => h) (Or.inl ⟨by rfl, ?hy10_40⟩) hHd ?rest10_40
            case hy10_40 =>
              intro w hSw
              go_simp
              try with_reducible rfl
            try simp only [Act.put, List.setIfInBounds_toArray, List.set_cons_zero, List.set_cons_succ]
            refine wpAnyH_take (i := 11) (oi := { dst := some 84, op := Op.load 3 (Operand.tmp 83), type := 3, pos := "law.go:137", after := #[{ on := 10, ground := Ground.data }, { on := 2, ground := Ground.guard }], guard := some (2, true) }) (v := ?vv11_41) rfl (by kernel_rfl) (by kernel_rfl) (by kernel_rfl) (fun _ _ _ h => h) (Or.inl ⟨by rfl, ?hy11_41⟩) hHd ?rest11_41
            case hy11_41 =>
              intro w hSw
              have hQ := hlk.out w hSw
              have hQ0 := hQ.1
              have hQ1 := hQ.2.1
              have hQ2 := hQ.2.2.1
              have hQ3 := hQ.2.2.2
              go_simp
              try with_reducible rfl
            try simp only [Act.put, List.setIfInBounds_toArray, List.set_cons_zero, List.set_cons_succ]
            refine wpAnyH_take (i := 12) (oi := { dst := some 85, op := Op.binOp BinOp.geq 3 (Operand.tmp 80) (Operand.tmp 84) 3, type := 4, pos := "law.go:137", after := #[{ on := 7, ground := Ground.data }, { on := 11, ground := Ground.data }, { on := 2, ground := Ground.guard }], guard := some (2, true) }) (v := .bool false) rfl (by kernel_rfl) (by kernel_rfl) (by kernel_rfl) (fun _ _ _ h => h) (Or.inl ⟨by rfl, fun w hSw => by first | (go_simp; done) | (go_simp; simp only [decide_eq_false_iff_not, beq_iff_eq, bne_self_eq_false]; omega) | (go_simp; simp [*]; done) | (go_simp; omega)⟩) hHd ?_
            try simp only [Act.put, List.setIfInBounds_toArray, List.set_cons_zero, List.set_cons_succ]
            refine wpAnyH_take (i := 13) (oi := { dst := some 86, op := Op.pick (Operand.tmp 75) (Operand.tmp 85) (Operand.const (Value.bool false)), type := 4, pos := "law.go:137", after := #[{ on := 2, ground := Ground.data }, { on := 12, ground := Ground.data }], guard := none }) (v := ?vv13_42) rfl (by kernel_rfl) (by kernel_rfl) (by kernel_rfl) (fun _ _ _ h => h) (Or.inl ⟨by rfl, ?hy13_42⟩) hHd ?rest13_42
            case hy13_42 =>
              intro w hSw
              go_simp
              try with_reducible rfl
            try simp only [Act.put, List.setIfInBounds_toArray, List.set_cons_zero, List.set_cons_succ]
            refine wpAnyH_take (i := 14) (oi := { dst := some 87, op := Op.move (Operand.tmp 86), type := 4, pos := "law.go:137", after := #[{ on := 13, ground := Ground.data }, { on := 2, ground := Ground.chain }], guard := none }) (v := ?vv14_43) rfl (by kernel_rfl) (by kernel_rfl) (by kernel_rfl) (fun _ _ _ h => h) (Or.inl ⟨by rfl, ?hy14_43⟩) hHd ?rest14_43
            case hy14_43 =>
              intro w hSw
              go_simp
              try with_reducible rfl
            try simp only [Act.put, List.setIfInBounds_toArray, List.set_cons_zero, List.set_cons_succ]
            refine wpAnyH_take (i := 15) (oi := { dst := some 88, op := Op.move (Operand.tmp 6), type := 52, pos := "law.go:137", after := #[{ on := 14, ground := Ground.guard }], guard := some (14, false) }) (v := ?vv15_44) rfl (by kernel_rfl) (by kernel_rfl) (by kernel_rfl) (fun _ _ _ h => h) (Or.inl ⟨by rfl, ?hy15_44⟩) hHd ?rest15_44
            case hy15_44 =>
              intro w hSw
              go_simp
              try with_reducible rfl
            try simp only [Act.put, List.setIfInBounds_toArray, List.set_cons_zero, List.set_cons_succ]
            refine wpAnyH_take (i := 16) (oi := { dst := some 89, op := Op.move (Operand.tmp 8), type := 3, pos := "law.go:137", after := #[{ on := 14, ground := Ground.guard }], guard := some (14, false) }) (v := ?vv16_45) rfl (by kernel_rfl) (by kernel_rfl) (by kernel_rfl) (fun _ _ _ h => h) (Or.inl ⟨by rfl, ?hy16_45⟩) hHd ?rest16_45
            case hy16_45 =>
              intro w hSw
              go_simp
              try with_reducible rfl
            try simp only [Act.put, List.setIfInBounds_toArray, List.set_cons_zero, List.set_cons_succ]
            refine wpAnyH_take (i := 17) (oi := { dst := some 90, op := Op.indexAddr 52 (Operand.tmp 88) (Operand.tmp 89), type := 0, pos := "law.go:137", after := #[{ on := 15, ground := Ground.data }, { on := 16, ground := Ground.data }, { on := 14, ground := Ground.guard }], guard := some (14, false) }) (v := ?vv17_46) rfl (by kernel_rfl) (by kernel_rfl) (by kernel_rfl) (fun _ _ _ h => h) (Or.inl ⟨by rfl, ?hy17_46⟩) hHd ?rest17_46
            case hy17_46 =>
              intro w hSw
              go_simp
              try with_reducible rfl
            try simp only [Act.put, List.setIfInBounds_toArray, List.set_cons_zero, List.set_cons_succ]
            refine wpAnyH_take (i := 18) (oi := { dst := some 91, op := Op.load 3 (Operand.tmp 90), type := 3, pos := "law.go:137", after := #[{ on := 17, ground := Ground.data }, { on := 14, ground := Ground.guard }], guard := some (14, false) }) (v := ?vv18_47) rfl (by kernel_rfl) (by kernel_rfl) (by kernel_rfl) (fun _ _ _ h => h) (Or.inl ⟨by rfl, ?hy18_47⟩) hHd ?rest18_47
            case hy18_47 =>
              intro w hSw
              have hQ := hlk.out w hSw
              have hQ0 := hQ.1
              have hQ1 := hQ.2.1
              have hQ2 := hQ.2.2.1
              have hQ3 := hQ.2.2.2
              go_simp
              try with_reducible rfl
            try simp only [Act.put, List.setIfInBounds_toArray, List.set_cons_zero, List.set_cons_succ]
            refine wpAnyH_take (i := 19) (oi := { dst := some 92, op := Op.binOp BinOp.lss 3 (Operand.tmp 91) (Operand.const (Value.int IntKind.i64 0)) 3, type := 4, pos := "law.go:137", after := #[{ on := 18, ground := Ground.data }, { on := 14, ground := Ground.guard }], guard := some (14, false) }) (v := .bool false) rfl (by kernel_rfl) (by kernel_rfl) (by kernel_rfl) (fun _ _ _ h => h) (Or.inl ⟨by rfl, fun w hSw => by first | (go_simp; done) | (go_simp; simp only [decide_eq_false_iff_not, beq_iff_eq, bne_self_eq_false]; omega) | (go_simp; simp [*]; done) | (go_simp; omega)⟩) hHd ?_
            try simp only [Act.put, List.setIfInBounds_toArray, List.set_cons_zero, List.set_cons_succ]
            refine wpAnyH_take (i := 20) (oi := { dst := some 93, op := Op.pick (Operand.tmp 87) (Operand.const (Value.bool true)) (Operand.tmp 92), type := 4, pos := "law.go:137", after := #[{ on := 14, ground := Ground.data }, { on := 19, ground := Ground.data }], guard := none }) (v := ?vv20_48) rfl (by kernel_rfl) (by kernel_rfl) (by kernel_rfl) (fun _ _ _ h => h) (Or.inl ⟨by rfl, ?hy20_48⟩) hHd ?rest20_48
            case hy20_48 =>
              intro w hSw
              go_simp
              try with_reducible rfl
            try simp only [Act.put, List.setIfInBounds_toArray, List.set_cons_zero, List.set_cons_succ]
            refine wpAnyH_take (i := 21) (oi := { dst := some 94, op := Op.move (Operand.tmp 93), type := 4, pos := "law.go:137", after := #[{ on := 20, ground := Ground.data }, { on := 14, ground := Ground.chain }], guard := none }) (v := ?vv21_49) rfl (by kernel_rfl) (by kernel_rfl) (by kernel_rfl) (fun _ _ _ h => h) (Or.inl ⟨by rfl, ?hy21_49⟩) hHd ?rest21_49
            case hy21_49 =>
              intro w hSw
              go_simp
              try with_reducible rfl
            try simp only [Act.put, List.setIfInBounds_toArray, List.set_cons_zero, List.set_cons_succ]
            refine wpAnyH_take (i := 22) (oi := { dst := some 95, op := Op.move (Operand.tmp 6), type := 52, pos := "law.go:137", after := #[{ on := 21, ground := Ground.guard }], guard := some (21, false) }) (v := ?vv22_50) rfl (by kernel_rfl) (by kernel_rfl) (by kernel_rfl) (fun _ _ _ h => h) (Or.inl ⟨by rfl, ?hy22_50⟩) hHd ?rest22_50
            case hy22_50 =>
              intro w hSw
              go_simp
              try with_reducible rfl
            try simp only [Act.put, List.setIfInBounds_toArray, List.set_cons_zero, List.set_cons_succ]
            refine wpAnyH_take (i := 23) (oi := { dst := some 96, op := Op.move (Operand.tmp 8), type := 3, pos := "law.go:137", after := #[{ on := 21, ground := Ground.guard }], guard := some (21, false) }) (v := ?vv23_51) rfl (by kernel_rfl) (by kernel_rfl) (by kernel_rfl) (fun _ _ _ h => h) (Or.inl ⟨by rfl, ?hy23_51⟩) hHd ?rest23_51
            case hy23_51 =>
              intro w hSw
              go_simp
              try with_reducible rfl
            try simp only [Act.put, List.setIfInBounds_toArray, List.set_cons_zero, List.set_cons_succ]
            refine wpAnyH_take (i := 24) (oi := { dst := some 97, op := Op.indexAddr 52 (Operand.tmp 95) (Operand.tmp 96), type := 0, pos := "law.go:137", after := #[{ on := 22, ground := Ground.data }, { on := 23, ground := Ground.data }, { on := 21, ground := Ground.guard }], guard := some (21, false) }) (v := ?vv24_52) rfl (by kernel_rfl) (by kernel_rfl) (by kernel_rfl) (fun _ _ _ h => h) (Or.inl ⟨by rfl, ?hy24_52⟩) hHd ?rest24_52
            case hy24_52 =>
              intro w hSw
              go_simp
              try with_reducible rfl
            try simp only [Act.put, List.setIfInBounds_toArray, List.set_cons_zero, List.set_cons_succ]
            refine wpAnyH_take (i := 25) (oi := { dst := some 98, op := Op.load 3 (Operand.tmp 97), type := 3, pos := "law.go:137", after := #[{ on := 24, ground := Ground.data }, { on := 21, ground := Ground.guard }], guard := some (21, false) }) (v := ?vv25_53) rfl (by kernel_rfl) (by kernel_rfl) (by kernel_rfl) (fun _ _ _ h => h) (Or.inl ⟨by rfl, ?hy25_53⟩) hHd ?rest25_53
            case hy25_53 =>
              intro w hSw
              have hQ := hlk.out w hSw
              have hQ0 := hQ.1
              have hQ1 := hQ.2.1
              have hQ2 := hQ.2.2.1
              have hQ3 := hQ.2.2.2
              go_simp
              try with_reducible rfl
            try simp only [Act.put, List.setIfInBounds_toArray, List.set_cons_zero, List.set_cons_succ]
            refine wpAnyH_take (i := 26) (oi := { dst := some 99, op := Op.fieldAddr 27 (Operand.tmp 2) 1, type := 0, pos := "law.go:137", after := #[{ on := 21, ground := Ground.guard }], guard := some (21, false) }) (v := ?vv26_54) rfl (by kernel_rfl) (by kernel_rfl) (by kernel_rfl) (fun _ _ _ h => h) (Or.inl ⟨by rfl, ?hy26_54⟩) hHd ?rest26_54
            case hy26_54 =>
              intro w hSw
              go_simp
              try with_reducible rfl
            try simp only [Act.put, List.setIfInBounds_toArray, List.set_cons_zero, List.set_cons_succ]
            refine wpAnyH_take (i := 27) (oi := { dst := some 100, op := Op.load 23 (Operand.tmp 99), type := 23, pos := "law.go:137", after := #[{ on := 26, ground := Ground.data }, { on := 21, ground := Ground.guard }], guard := some (21, false) }) (v := ?vv27_55) rfl (by kernel_rfl) (by kernel_rfl) (by kernel_rfl) (fun _ _ _ h => h) (Or.inl ⟨by rfl, ?hy27_55⟩) hHd ?rest27_55
            case hy27_55 =>
              intro w hSw
              have hQ := hlk.out w hSw
              have hQ0 := hQ.1
              have hQ1 := hQ.2.1
              have hQ2 := hQ.2.2.1
              have hQ3 := hQ.2.2.2
              go_simp
              try with_reducible rfl
            try simp only [Act.put, List.setIfInBounds_toArray, List.set_cons_zero, List.set_cons_succ]
            refine wpAnyH_take (i := 28) (oi := { dst := some 101, op := Op.call { callee := Callee.builtin Builtin.len, args := #[Operand.tmp 100], argTypes := #[23] }, type := 3, pos := "law.go:137", after := #[{ on := 27, ground := Ground.data }, { on := 21, ground := Ground.guard }], guard := some (21, false) }) (v := ?vv28_56) rfl (by kernel_rfl) (by kernel_rfl) (by kernel_rfl) (fun _ _ _ h => h) (Or.inl ⟨by rfl, ?hy28_56⟩) hHd ?rest28_56
            case hy28_56 =>
              intro w hSw
              go_simp
              try with_reducible rfl
            try simp only [Act.put, List.setIfInBounds_toArray, List.set_cons_zero, List.set_cons_succ]
            refine wpAnyH_take (i := 29) (oi := { dst := some 102, op := Op.binOp BinOp.geq 3 (Operand.tmp 98) (Operand.tmp 101) 3, type := 4, pos := "law.go:137", after := #[{ on := 25, ground := Ground.data }, { on := 28, ground := Ground.data }, { on := 21, ground := Ground.guard }], guard := some (21, false) }) (v := .bool false) rfl (by kernel_rfl) (by kernel_rfl) (by kernel_rfl) (fun _ _ _ h => h) (Or.inl ⟨by rfl, fun w hSw => by first | (go_simp; done) | (go_simp; simp only [decide_eq_false_iff_not, beq_iff_eq, bne_self_eq_false]; omega) | (go_simp; simp [*]; done) | (go_simp; omega)⟩) hHd ?_
            try simp only [Act.put, List.setIfInBounds_toArray, List.set_cons_zero, List.set_cons_succ]
            refine wpAnyH_take (i := 30) (oi := { dst := some 103, op := Op.pick (Operand.tmp 94) (Operand.const (Value.bool true)) (Operand.tmp 102), type := 4, pos := "law.go:137", after := #[{ on := 21, ground := Ground.data }, { on := 29, ground := Ground.data }], guard := none }) (v := ?vv30_57) rfl (by kernel_rfl) (by kernel_rfl) (by kernel_rfl) (fun _ _ _ h => h) (Or.inl ⟨by rfl, ?hy30_57⟩) hHd ?rest30_57
            case hy30_57 =>
              intro w hSw
              go_simp
              try with_reducible rfl
            try simp only [Act.put, List.setIfInBounds_toArray, List.set_cons_zero, List.set_cons_succ]
            refine wpAnyH_take (i := 31) (oi := { dst := some 104, op := Op.move (Operand.tmp 103), type := 4, pos := "law.go:137", after := #[{ on := 30, ground := Ground.data }, { on := 21, ground := Ground.chain }], guard := none }) (v := ?vv31_58) rfl (by kernel_rfl) (by kernel_rfl) (by kernel_rfl) (fun _ _ _ h => h) (Or.inl ⟨by rfl, ?hy31_58⟩) hHd ?rest31_58
            case hy31_58 =>
              intro w hSw
              go_simp
              try with_reducible rfl
            try simp only [Act.put, List.setIfInBounds_toArray, List.set_cons_zero, List.set_cons_succ]
            refine wpAnyH_take (i := 32) (oi := { dst := some 105, op := Op.fieldAddr 27 (Operand.tmp 2) 1, type := 0, pos := "law.go:137", after := #[{ on := 31, ground := Ground.guard }], guard := some (31, false) }) (v := ?vv32_59) rfl (by kernel_rfl) (by kernel_rfl) (by kernel_rfl) (fun _ _ _ h => h) (Or.inl ⟨by rfl, ?hy32_59⟩) hHd ?rest32_59
            case hy32_59 =>
              intro w hSw
              go_simp
              try with_reducible rfl
            try simp only [Act.put, List.setIfInBounds_toArray, List.set_cons_zero, List.set_cons_succ]
            refine wpAnyH_take (i := 33) (oi := { dst := some 106, op := Op.load 23 (Operand.tmp 105), type := 23, pos := "law.go:137", after := #[{ on := 32, ground := Ground.data }, { on := 31, ground := Ground.guard }], guard := some (31, false) }) (v := ?vv33_60) rfl (by kernel_rfl) (by kernel_rfl) (by kernel_rfl) (fun _ _ _ h => h) (Or.inl ⟨by rfl, ?hy33_60⟩) hHd ?rest33_60
            case hy33_60 =>
              intro w hSw
              have hQ := hlk.out w hSw
              have hQ0 := hQ.1
              have hQ1 := hQ.2.1
              have hQ2 := hQ.2.2.1
              have hQ3 := hQ.2.2.2
              go_simp
              try with_reducible rfl
            try simp only [Act.put, List.setIfInBounds_toArray, List.set_cons_zero, List.set_cons_succ]
            refine wpAnyH_take (i := 34) (oi := { dst := some 107, op := Op.move (Operand.tmp 6), type := 52, pos := "law.go:137", after := #[{ on := 31, ground := Ground.guard }], guard := some (31, false) }) (v := ?vv34_61) rfl (by kernel_rfl) (by kernel_rfl) (by kernel_rfl) (fun _ _ _ h => h) (Or.inl ⟨by rfl, ?hy34_61⟩) hHd ?rest34_61
            case hy34_61 =>
              intro w hSw
              go_simp
              try with_reducible rfl
            try simp only [Act.put, List.setIfInBounds_toArray, List.set_cons_zero, List.set_cons_succ]
            refine wpAnyH_take (i := 35) (oi := { dst := some 108, op := Op.move (Operand.tmp 8), type := 3, pos := "law.go:137", after := #[{ on := 31, ground := Ground.guard }], guard := some (31, false) }) (v := ?vv35_62) rfl (by kernel_rfl) (by kernel_rfl) (by kernel_rfl) (fun _ _ _ h => h) (Or.inl ⟨by rfl, ?hy35_62⟩) hHd ?rest35_62
            case hy35_62 =>
              intro w hSw
              go_simp
              try with_reducible rfl
            try simp only [Act.put, List.setIfInBounds_toArray, List.set_cons_zero, List.set_cons_succ]
            refine wpAnyH_take (i := 36) (oi := { dst := some 109, op := Op.indexAddr 52 (Operand.tmp 107) (Operand.tmp 108), type := 0, pos := "law.go:137", after := #[{ on := 34, ground := Ground.data }, { on := 35, ground := Ground.data }, { on := 31, ground := Ground.guard }], guard := some (31, false) }) (v := ?vv36_63) rfl (by kernel_rfl) (by kernel_rfl) (by kernel_rfl) (fun _ _ _ h => h) (Or.inl ⟨by rfl, ?hy36_63⟩) hHd ?rest36_63
            case hy36_63 =>
              intro w hSw
              go_simp
              try with_reducible rfl
            try simp only [Act.put, List.setIfInBounds_toArray, List.set_cons_zero, List.set_cons_succ]
            refine wpAnyH_take (i := 37) (oi := { dst := some 110, op := Op.load 3 (Operand.tmp 109), type := 3, pos := "law.go:137", after := #[{ on := 36, ground := Ground.data }, { on := 31, ground := Ground.guard }], guard := some (31, false) }) (v := ?vv37_64) rfl (by kernel_rfl) (by kernel_rfl) (by kernel_rfl) (fun _ _ _ h => h) (Or.inl ⟨by rfl, ?hy37_64⟩) hHd ?rest37_64
            case hy37_64 =>
              intro w hSw
              have hQ := hlk.out w hSw
              have hQ0 := hQ.1
              have hQ1 := hQ.2.1
              have hQ2 := hQ.2.2.1
              have hQ3 := hQ.2.2.2
              go_simp
              try with_reducible rfl
            try simp only [Act.put, List.setIfInBounds_toArray, List.set_cons_zero, List.set_cons_succ]
            refine wpAnyH_take (i := 38) (oi := { dst := some 111, op := Op.indexAddr 23 (Operand.tmp 106) (Operand.tmp 110), type := 0, pos := "law.go:137", after := #[{ on := 33, ground := Ground.data }, { on := 37, ground := Ground.data }, { on := 31, ground := Ground.guard }], guard := some (31, false) }) (v := ?vv38_65) rfl (by kernel_rfl) (by kernel_rfl) (by kernel_rfl) (fun _ _ _ h => h) (Or.inl ⟨by rfl, ?hy38_65⟩) hHd ?rest38_65
            case hy38_65 =>
              intro w hSw
              go_simp
              try with_reducible rfl
            try simp only [Act.put, List.setIfInBounds_toArray, List.set_cons_zero, List.set_cons_succ]
            refine wpAnyH_take (i := 39) (oi := { dst := some 112, op := Op.fieldAddr 43 (Operand.tmp 111) 1, type := 0, pos := "law.go:137", after := #[{ on := 38, ground := Ground.data }, { on := 31, ground := Ground.guard }], guard := some (31, false) }) (v := ?vv39_66) rfl (by kernel_rfl) (by kernel_rfl) (by kernel_rfl) (fun _ _ _ h => h) (Or.inl ⟨by rfl, ?hy39_66⟩) hHd ?rest39_66
            case hy39_66 =>
              intro w hSw
              go_simp
              try with_reducible rfl
            try simp only [Act.put, List.setIfInBounds_toArray, List.set_cons_zero, List.set_cons_succ]
            refine wpAnyH_take (i := 40) (oi := { dst := some 113, op := Op.load 3 (Operand.tmp 112), type := 3, pos := "law.go:137", after := #[{ on := 39, ground := Ground.data }, { on := 31, ground := Ground.guard }], guard := some (31, false) }) (v := ?vv40_67) rfl (by kernel_rfl) (by kernel_rfl) (by kernel_rfl) (fun _ _ _ h => h) (Or.inl ⟨by rfl, ?hy40_67⟩) hHd ?rest40_67
            case hy40_67 =>
              intro w hSw
              have hQ := hlk.out w hSw
              have hQ0 := hQ.1
              have hQ1 := hQ.2.1
              have hQ2 := hQ.2.2.1
              have hQ3 := hQ.2.2.2
              go_simp
              try with_reducible rfl
            try simp only [Act.put, List.setIfInBounds_toArray, List.set_cons_zero, List.set_cons_succ]
            refine wpAnyH_take (i := 41) (oi := { dst := some 114, op := Op.move (Operand.tmp 1), type := 3, pos := "law.go:137", after := #[{ on := 31, ground := Ground.guard }], guard := some (31, false) }) (v := ?vv41_68) rfl (by kernel_rfl) (by kernel_rfl) (by kernel_rfl) (fun _ _ _ h => h) (Or.inl ⟨by rfl, ?hy41_68⟩) hHd ?rest41_68
            case hy41_68 =>
              intro w hSw
              go_simp
              try with_reducible rfl
            try simp only [Act.put, List.setIfInBounds_toArray, List.set_cons_zero, List.set_cons_succ]
            refine wpAnyH_take (i := 42) (oi := { dst := some 115, op := Op.binOp BinOp.neq 3 (Operand.tmp 113) (Operand.tmp 114) 3, type := 4, pos := "law.go:137", after := #[{ on := 40, ground := Ground.data }, { on := 41, ground := Ground.data }, { on := 31, ground := Ground.guard }], guard := some (31, false) }) (v := .bool false) rfl (by kernel_rfl) (by kernel_rfl) (by kernel_rfl) (fun _ _ _ h => h) (Or.inl ⟨by rfl, fun w hSw => by first | (go_simp; done) | (go_simp; simp only [decide_eq_false_iff_not, beq_iff_eq, bne_self_eq_false]; omega) | (go_simp; simp [*]; done) | (go_simp; omega)⟩) hHd ?_
            try simp only [Act.put, List.setIfInBounds_toArray, List.set_cons_zero, List.set_cons_succ]
            refine wpAnyH_take (i := 43) (oi := { dst := some 116, op := Op.pick (Operand.tmp 104) (Operand.const (Value.bool true)) (Operand.tmp 115), type := 4, pos := "law.go:137", after := #[{ on := 31, ground := Ground.data }, { on := 42, ground := Ground.data }], guard := none }) (v := ?vv43_69) rfl (by kernel_rfl) (by kernel_rfl) (by kernel_rfl) (fun _ _ _ h => h) (Or.inl ⟨by rfl, ?hy43_69⟩) hHd ?rest43_69
            case hy43_69 =>
              intro w hSw
              go_simp
              try with_reducible rfl
            try simp only [Act.put, List.setIfInBounds_toArray, List.set_cons_zero, List.set_cons_succ]
            refine wpAnyH_done (by kernel_rfl) ?_ _
            go_wp2_with fail
            go_roundw
            case rel => (repeat apply Exists.intro); first | exact ⟨hi'.out, by go_num⟩ | exact ⟨hi'.out, by go_num, hbd⟩ | exact ⟨⟨hi'.out, by go_num, hbd⟩, rfl⟩
            case measure => have := hi'.out; simp [intOf]; omega
        · obtain rfl : L2 = i := by omega
          have hiz : ¬ (L2 : Int) < (L2 : Int) := by omega
          clear hi
          have hbr2 := hbr
          clear hbr
          go_wp2
          go_loopw [9, 10] (fun s9 s10 wr => ∃ i c : Nat, i ≤ v.ll ∧ Hid (c = ends M n i) ∧ s9 = .int .i64 c ∧ s10 = .int .i64 i ∧ Hid (Below w3.heap.size w3 wr)) (fun _ s10 _ => v.ll - (intOf s10).toNat)
          case atStart => exact ⟨0, 0, Nat.zero_le _, Lib.hid rfl, rfl, rfl, hbr2⟩
          case round =>
            obtain ⟨i, c, hil, hc, rfl, rfl, hbr⟩ := hrel
            have c1 := (hbx3.out.below hbr.out).c1
            have hmx : v.ll ≤ 17592186044416 := hbig'.out
            by_cases hi : i < v.ll
            · have hiz : (i : Int) < (v.ll : Int) := by omega
              have hi' := Lib.hid hi
              have hc2 : c ≤ 2 * i := by rw [hc.out]; exact ends_le M n i
              have hwi : IntKind.i64.wrap ((i : Int) + 1) = (i : Int) + 1 := IntWalk.i64_in _ (by omega)
              have hwc : IntKind.i64.wrap ((c : Int) + 1) = (c : Int) + 1 := IntWalk.i64_in _ (by omega)
              have hwd : IntKind.i64.wrap ((c : Int) + 1 + 1) = (c : Int) + 1 + 1 := IntWalk.i64_in _ (by omega)
              obtain ⟨b, off, hla, hlk⟩ := (hbx3.out.below hbr.out).2.2.1.get hi
              rw [hla] at c1
              have hst := ends_step M n i
              rw [← hc.out] at hst
              obtain ⟨l, hl⟩ : ∃ l, Hid (M.links.getD i default = l) := ⟨_, Lib.hid rfl⟩
              rw [hl.out] at hlk hst
              obtain ⟨hbl, x0, x1, -, -⟩ := hlk
              obtain ⟨src, dst, lok, loo⟩ := l
              dsimp only at x0 x1 hst
              by_cases h1 : src = n
              · by_cases h2 : dst = n
                · rw [if_pos h1, if_pos h2] at hst
                  have hcn : Hid (c + 1 + 1 = ends M n (i + 1)) := Lib.hid hst.symm
                  subst h1
                  subst h2
                  clear hi hla hl hst
                  go_wp2
                  go_roundw
                  case rel => (repeat apply Exists.intro); first | exact ⟨hi'.out, hcn, by go_num, by go_num⟩ | exact ⟨hi'.out, hcn, by go_num, by go_num, hbr⟩ | exact ⟨⟨hi'.out, hcn, by go_num, by go_num, hbr⟩, rfl⟩ | exact ⟨hi'.out, hcn, by go_num⟩ | exact ⟨hi'.out, hcn⟩
                  case measure => have := hi'.out; simp [intOf]; omega
                · rw [if_pos h1, if_neg h2] at hst
                  have hcn : Hid (c + 1 = ends M n (i + 1)) := Lib.hid hst.symm
                  have hb2 : (dst == n) = false := by simp [h2]
                  subst h1
                  clear hi hla hl hst
                  go_wp2
                  go_roundw
                  case rel => (repeat apply Exists.intro); first | exact ⟨hi'.out, hcn, by go_num, by go_num⟩ | exact ⟨hi'.out, hcn, by go_num, by go_num, hbr⟩ | exact ⟨⟨hi'.out, hcn, by go_num, by go_num, hbr⟩, rfl⟩ | exact ⟨hi'.out, hcn, by go_num⟩ | exact ⟨hi'.out, hcn⟩
                  case measure => have := hi'.out; simp [intOf]; omega
              · have hb1 : (src == n) = false := by simp [h1]
                by_cases h2 : dst = n
                · rw [if_neg h1, if_pos h2] at hst
                  have hcn : Hid (c + 1 = ends M n (i + 1)) := Lib.hid hst.symm
                  subst h2
                  clear hi hla hl hst
                  go_wp2
                  go_roundw
                  case rel => (repeat apply Exists.intro); first | exact ⟨hi'.out, hcn, by go_num, by go_num⟩ | exact ⟨hi'.out, hcn, by go_num, by go_num, hbr⟩ | exact ⟨⟨hi'.out, hcn, by go_num, by go_num, hbr⟩, rfl⟩ | exact ⟨hi'.out, hcn, by go_num⟩ | exact ⟨hi'.out, hcn⟩
                  case measure => have := hi'.out; simp [intOf]; omega
                · rw [if_neg h1, if_neg h2] at hst
                  have hcn : Hid (c = ends M n (i + 1)) := Lib.hid hst.symm
                  have hb2 : (dst == n) = false := by simp [h2]
                  clear hi hla hl hst
                  go_wp2
                  go_roundw
                  case rel => (repeat apply Exists.intro); first | exact ⟨hi'.out, hcn, by go_num, by go_num⟩ | exact ⟨hi'.out, hcn, by go_num, by go_num, hbr⟩ | exact ⟨⟨hi'.out, hcn, by go_num, by go_num, hbr⟩, rfl⟩ | exact ⟨hi'.out, hcn, by go_num⟩ | exact ⟨hi'.out, hcn⟩
                  case measure => have := hi'.out; simp [intOf]; omega
            · obtain rfl : i = v.ll := by omega
              have hiz : ¬ (v.ll : Int) < (v.ll : Int) := by omega
              obtain rfl : c = L1 + L2 := by rw [hc.out, hen.out]
              have hm1 := hx1.out
              have hm2 := hx2.out
              have hws : IntKind.i64.wrap ((L1 : Int) + (L2 : Int)) = (L1 : Int) + (L2 : Int) := IntWalk.i64_in _ (by omega)
              have hee : ((L1 + L2 : Nat) : Int) = (L1 : Int) + (L2 : Int) := by omega
              have haw := Lib.hid (awake_any13 (hL3.out.below hbr.out))
              have hb7 := Lib.hid (hb3.out.trans (hbr.out.mono hb3.out.size))
              clear hi
              go_wp2_with (go_at_call 11; refine haw.out.mono ?_; rintro e w6 ⟨rfl, hb8⟩; have hb9 := Lib.hid (hb7.out.trans (hb8.mono hb7.out.size)); clear hb8)
              go_ret
              exact ⟨rfl, hb9.out⟩
end Go.Proofs.YtofkfajcibdneaaDoor
