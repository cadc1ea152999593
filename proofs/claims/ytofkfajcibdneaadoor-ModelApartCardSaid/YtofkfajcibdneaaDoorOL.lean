/-
  The program's World.
-/
import Derived.Test.YtofkfajcibdneaaDoorOK
namespace Go.Proofs.YtofkfajcibdneaaDoor
open Go.ChangeShapes Go.WideShapes Go.ChangeAt Go.Shelf Go.RowKit Go.Lib Go.Sort Go.Deep
set_option linter.unusedVariables false
set_option linter.unusedSimpArgs false
set_option maxRecDepth 4000

/-- The world of a process, and which fault. -/
noncomputable def woA (M : Md) (n : Int) : Wd × Int := @ite _ (checkM M = 0) (Classical.propDecidable _)
  (if 0 ≤ n ∧ n < (M.progs.length : Int) then (⟨M.progs.getD n.toNat [], n, (waysU (·.src) M.links n M.links.length).map fun j => M.links.getD j default, M.seed⟩, 0) else (⟨[], 0, [], 0⟩, 1)) (⟨[], 0, [], 0⟩, checkM M)
def flL : List Lk → List Value
  | [] => []
  | l :: ls => lkC l ++ flL ls
theorem flL_len : ∀ ls : List Lk, (flL ls).length = ls.length * 4
  | [] => rfl
  | l :: ls => by rw [flL, List.length_append, flL_len ls, List.length_cons]; show 4 + _ = _; omega
theorem flL_get {j : Nat} (hj : j < 4) : ∀ (ls : List Lk) (i : Nat), i < ls.length → (flL ls)[i * 4 + j]? = (lkC (ls.getD i default))[j]?
  | [], i, h => by simp at h
  | l :: ls, 0, h => by
    rw [flL, List.getElem?_append_left (by show _ < 4; omega)]
    simp
  | l :: ls, i + 1, h => by
    rw [flL, List.getElem?_append_right (by show 4 ≤ _; omega)]
    have : (i + 1) * 4 + j - (lkC l).length = i * 4 + j := by show _ - 4 = _; omega
    rw [this, flL_get hj ls i (by simpa using h)]
    simp
theorem lksC_map (ls : List Lk) : ∀ is : List Nat, lksC ls is = flL (is.map fun j => ls.getD j default)
  | [] => rfl
  | j :: is => by rw [lksC, lksC_map ls is]; rfl
/-- How a world lies. -/
def WoAns (w w' : World) (A : Wd × Int) (qa : Option Addr) (ql qc : Nat) (u : Value) : Prop := Below w.heap.size w w' ∧ Inss w' qa ql qc A.1.prog ∧ RowAt w' 43 4 u A.1.links.length (flL A.1.links)
theorem Inss.none13 (w : World) : Inss w none 0 0 [] := ⟨rfl, Nat.le_refl _, Nat.zero_le _, fun _ h => (by cases h), .inl rfl⟩
/-- What is answered for an error, from that world on. -/
def NumOf (w : World) (er : Value) (z : Int) : Prop := ∀ W, Below w.heap.size w W → Calls Tryd.prog 20 #[er] W fun e w' => e = .returned (.int .i64 z) ∧ Hid (Below W.heap.size W w')
theorem NumOf.below {w w' : World} {er : Value} {z : Int} (h : NumOf w er z) (hb : Below w.heap.size w w') : NumOf w' er z := fun W hb2 => h W (hb.trans (hb2.mono hb.size))
theorem mdworld_any {w : World} {v : Mv} {M : Md} (h : Mds w v M) (hL : Laid13 w) (n : Int) : Calls Tryd.prog 25 #[v.val M, .int .i64 n] w fun e w' => ∃ qa ql qc u er, e = .returned (.tuple #[.agg (woC (.slice qa ql qc) (woA M n).1.self u (woA M n).1.seed), er]) ∧ Hid (NumOf w er (woA M n).2) ∧ Hid (WoAns w w' (woA M n) qa ql qc u) := by
  have hpl := h.1.1
  by_cases hc : checkM M = 0
  · by_cases hn : 0 ≤ n ∧ n < (M.progs.length : Int)
    · obtain ⟨k, rfl⟩ : ∃ k : Nat, n = (k : Int) := ⟨n.toNat, by omega⟩
      have hA : woA M k = (⟨M.progs.getD k [], k, (waysU (·.src) M.links k M.links.length).map fun j => M.links.getD j default, M.seed⟩, 0) := by
        unfold woA; rw [if_pos hc, if_pos hn]; rfl
      rw [hA]
      refine (mdworld_ok h hL hc k (by omega)).mono ?_
      rintro e w' ⟨qa, ql, qc, u, rfl, hq⟩
      refine ⟨qa, ql, qc, u, _, rfl, Lib.hid (fun W hb => number_none (hL.below hb)), Lib.hid ⟨hq.out.1, hq.out.2.1, ?_⟩⟩
      rw [← lksC_map, List.length_map]
      exact hq.out.2.2
    · have hA : woA M n = (⟨[], 0, [], 0⟩, 1) := by unfold woA; rw [if_pos hc, if_neg hn]
      rw [hA]
      obtain ⟨b5, hb5⟩ := hL.2.2.2.2.1
      refine (mdworld_none h hL n hc (by rw [hpl] at hn; exact hn) b5 hb5).mono ?_
      rintro e w' ⟨rfl, hb⟩
      exact ⟨none, 0, 0, _, _, rfl, Lib.hid (fun W hb => number_sen (hL.below hb) b5 (hb5.below hb)), Lib.hid ⟨hb.out, Inss.none13 _, RowAt.nil _ _ _⟩⟩
  · have hA : woA M n = (⟨[], 0, [], 0⟩, checkM M) := by unfold woA; rw [if_neg hc]
    rw [hA]
    refine (mdworld_bad h hL n hc).mono ?_
    rintro e w' ⟨t, x, rfl, hb⟩
    exact ⟨none, 0, 0, _, _, rfl, Lib.hid (fun W hb => number_flaw (hL.below hb) _ t x), Lib.hid ⟨hb.out, Inss.none13 _, RowAt.nil _ _ _⟩⟩
theorem RowAt.ne13 {w : World} {e T : TypeId} {sz n R : Nat} {v : Value} {xs : List Value} {c : Array Value} (h : RowAt w e sz v n xs) (hR : w.heap[R]? = some (.cells c T (0, 0))) (hne : e ≠ T) : ∀ j, v.ownBlock = some j → ¬ j = R := by
  intro j e1 e2
  subst e2
  rcases h with ⟨h1, -, -⟩ | ⟨g, off, cap, h1, hI⟩
  · rw [h1] at e1; cases e1
  · rw [h1] at e1
    simp [Value.ownBlock] at e1
    subst e1
    obtain ⟨cur, h0, -⟩ := hI
    rw [hR] at h0
    simp at h0
    exact hne h0.2.symm
theorem Inss.row13 {w : World} {a : Option Addr} {len cap R : Nat} {is : List I} {self : Int} {seed : Nat} {p l : Option Addr} {pl pc ll lc : Nat} (h : Inss w a len cap is) (hR : w.heap[R]? = some (.cells #[.slice p pl pc, .int .i64 self, .slice l ll lc, .int .u64 seed] 35 (0, 0))) (cs : Array Value) : Inss (w.setRow R cs) a len cap is := by
  rcases Nat.eq_zero_or_pos len with h0 | h0
  · exact ⟨h.1, h.2.1, h.2.2.1, h.2.2.2.1, .inl h0⟩
  · refine h.keptOff (KeptOff.row w R _) (fun j e e2 => ?_)
    have e3 : j = R := e2
    subst e3
    obtain ⟨b, off, rfl, hm⟩ : ∃ b off, a = some ⟨b, off, none⟩ ∧ ∀ k, k < len → InsAt w b (off + k * 4) (is.getD k default) := by
      rcases h.2.2.2.2 with h1 | h1
      · omega
      · exact h1
    simp [Value.ownBlock] at e
    subst e
    obtain ⟨-, c0, c1, c2, c3⟩ := hm 0 h0
    have k0 := cell_of_row w b (off + 0 * 4) _ _ (0, 0) hR
    have k1 := cell_of_row w b (off + 0 * 4 + 1) _ _ (0, 0) hR
    rw [c0] at k0
    rw [c1] at k1
    rcases (by omega : off = 0 ∨ off = 1 ∨ off = 2 ∨ 3 ≤ off) with e | e | e | e
    · subst e; simp at k0
    · subst e; simp at k1
    · subst e; simp at k0
    · simp only [Nat.zero_mul, Nat.add_zero] at k1
      rw [Array.getElem?_eq_none (by simp; omega)] at k1
      cases k1
set_option maxHeartbeats 16000000 in
set_option maxRecDepth 100000 in
theorem mdWorld_any {w : World} {v : Mv} {M : Md} (h : Mds w v M) (hL : Laid13 w) (n : Int) : Calls Tryd.prog 12 #[v.val M, .int .i64 n] w fun e w' => ∃ qa ql qc u, e = .returned (.tuple #[.agg (woC (.slice qa ql qc) (woA M n).1.self u (woA M n).1.seed), .int .i64 (woA M n).2]) ∧ Hid (WoAns w w' (woA M n) qa ql qc u) := by
  have mixed := mixed
  obtain ⟨pa, pl, pc, la, ll, lc, sa, sl, sc⟩ := v
  have hb1 := (Below.refl _ w).alloc (Nat.le_refl _) (.cells (Mv.cells ⟨pa, pl, pc, la, ll, lc, sa, sl, sc⟩ M) 27)
  have hb2 : Hid (Below w.heap.size w ((w.alloc (.cells (Mv.cells ⟨pa, pl, pc, la, ll, lc, sa, sl, sc⟩ M) 27)).alloc (.cells woZ 35))) := hb1.alloc hb1.size _
  have hbx := Lib.hid (h.box.below ((Below.refl _ (w.alloc (.cells (Mv.cells ⟨pa, pl, pc, la, ll, lc, sa, sl, sc⟩ M) 27))).alloc (Nat.le_refl _) (.cells woZ 35)))
  have hwo := Lib.hid (heap_alloc_new (w.alloc (.cells (Mv.cells ⟨pa, pl, pc, la, ll, lc, sa, sl, sc⟩ M) 27)) (.cells woZ 35))
  have hR : Hid ((w.alloc (.cells (Mv.cells ⟨pa, pl, pc, la, ll, lc, sa, sl, sc⟩ M) 27)).heap.size = w.heap.size + 1) := by show _ = _; simp
  have hL1 := Lib.hid (hL.below hb2.out)
  clear h hb1 hL
  rw [hR.out] at hwo
  obtain ⟨X, hX⟩ : ∃ X, Hid (woA M n = X) := ⟨_, Lib.hid rfl⟩
  rw [hX.out]
  simp only [Mv.val, Mv.cells, woZ] at hbx hb2 hwo hL1 ⊢
  have hwd := Lib.hid (mdworld_any hbx.out.2 hL1.out n)
  rw [hX.out] at hwd
  obtain ⟨⟨is, self, ls, seed⟩, z⟩ := X
  simp only [Mv.val, Mv.cells, woC] at hwo hwd ⊢
  try dsimp only at hwd ⊢
  have hwo2 : Hid ((w.alloc (.cells #[.slice pa pl pc, .slice la ll lc, .slice sa sl sc, .int .u64 M.seed, .int .i64 M.last, .int .i64 M.bud] 27)).alloc (.cells #[.slice none 0 0, .int .i64 0, .slice none 0 0, .int .u64 0] 35) = ((w.alloc (.cells #[.slice pa pl pc, .slice la ll lc, .slice sa sl sc, .int .u64 M.seed, .int .i64 M.last, .int .i64 M.bud] 27)).alloc (.cells (woC (.slice none 0 0) 0 (.slice none 0 0) 0) 35))) := Lib.hid rfl
  go_enter Tryd.func12, Tryd.ntmps12
  go_upto_region 1 with fail
  have hbx' := hbx
  have hb2' := hb2
  simp only [woC] at hbx' hb2'
  clear hbx hb2 hwo2
  generalize (w.alloc _).alloc _ = W at *
  obtain ⟨R, hRR⟩ : ∃ R, w.heap.size + 1 = R := ⟨_, rfl⟩
  obtain ⟨B, hBB⟩ : ∃ B, w.heap.size = B := ⟨_, rfl⟩
  have hord : Hid (w.heap.size ≤ B ∧ w.heap.size ≤ R ∧ R ≠ B) := Lib.hid ⟨by omega, by omega, by omega⟩
  rw [hRR] at hwo ⊢
  rw [hBB] at hbx' ⊢
  clear hRR hBB hR
  have c0 := hbx'.out.c0
  have c1 := hbx'.out.c1
  have c2 := hbx'.out.c2
  have c3 := hbx'.out.c3
  have c4 := hbx'.out.c4
  have c5 := hbx'.out.c5
  dsimp only at c0 c1 c2
  go_upto_region 2 with (go_at_call 25; refine hwd.out.mono ?_; rintro e w2 ⟨qa, ql, qc, u1, er, rfl, hnm, hr1⟩; obtain ⟨la1, lc1, rfl, -⟩ := hr1.out.2.2.shape; dsimp only)
  have hs2 := Lib.hid ((Below.refl _ w2).alloc (Nat.le_refl _) (.cells #[.slice qa ql qc, .int .i64 self, .slice la1 ls.length lc1, .int .u64 seed] 35))
  have hbw := Lib.hid (heap_alloc_new w2 (.cells #[.slice qa ql qc, .int .i64 self, .slice la1 ls.length lc1, .int .u64 seed] 35))
  have hwo3 := Lib.hid ((hs2.out.block R (by have := (Array.getElem?_eq_some_iff.1 hwo.out).1; have := hr1.out.1.size; omega)).trans ((hr1.out.1.block R (Array.getElem?_eq_some_iff.1 hwo.out).1).trans hwo.out))
  have hb3 := Lib.hid (hr1.out.1.trans (hs2.out.mono hr1.out.1.size))
  have hans := Lib.hid (show WoAns w (w2.alloc (.cells #[.slice qa ql qc, .int .i64 self, .slice la1 ls.length lc1, .int .u64 seed] 35)) (⟨is, self, ls, seed⟩, z) qa ql qc (.slice la1 ls.length lc1) from ⟨hb2'.out.trans (hb3.out.mono hb2'.out.size), hr1.out.2.1.below hs2.out, hr1.out.2.2.kept (S := fun _ => False) (.of_below hs2.out) (fun _ _ e => e)⟩)
  have hnum0 := Lib.hid (hnm.out.below hb3.out)
  have hRn := Lib.hid (show R < W.heap.size from (Array.getElem?_eq_some_iff.1 hwo.out).1)
  have hcR : Hid (R < w2.heap.size) := Lib.hid (Nat.lt_of_lt_of_le hRn.out hr1.out.1.size)
  clear c0 c1 c2 c3 c4 c5 hwd hwo hnm hb3 hb2' hbx' hL1
  have hBR : Hid (w2.heap.size ≠ R) := Lib.hid (by have := hcR.out; omega)
  clear hs2 hr1 hRn hcR
  generalize w2.alloc (.cells #[.slice qa ql qc, .int .i64 self, .slice la1 ls.length lc1, .int .u64 seed] 35) = w3 at *
  generalize w2.heap.size = Bw at hbw hBR ⊢
  have hse : Hid (∀ W', Below w3.heap.size w3 W' → W'.rangeAt Bw 0 [.slice qa ql qc, .int .i64 self, .slice la1 ls.length lc1, .int .u64 seed]) := Lib.hid (fun W' hb j u hj => by
    rw [Nat.zero_add]
    exact cell_of_block ((hb.block Bw (Array.getElem?_eq_some_iff.1 hbw.out).1).trans hbw.out) (by simpa using hj))
  have hnum : Hid (∀ W', Below w3.heap.size w3 W' → Calls Tryd.prog 20 #[er] W' fun e w' => e = .returned (.int .i64 z) ∧ Hid (Below W'.heap.size W' w')) := Lib.hid (fun W' hb => hnum0.out W' hb)
  clear hnum0 hbw
  refine wp_region_Z (fun W => W.rangeAt Bw 0 [.slice qa ql qc, .int .i64 self, .slice la1 ls.length lc1, .int .u64 seed]) 3 (by kernel_rfl) ?_
  have hdr : Hid (Below w3.heap.size w3 w3.drew) := (Below.refl _ w3).drew
  have hS0 := hse.out w3.drew hdr.out
  have hwd := Lib.hid ((hdr.out.block R (Array.getElem?_eq_some_iff.1 hwo3.out).1).trans hwo3.out)
  generalize w3.drew = W5 at *
  refine wpAnyZ_load (i := 0) (oi := { dst := some 14, op := Op.load 35 (Operand.tmp 6), type := 35, pos := "model.go:171", after := #[], guard := none }) (v := .agg ([.slice qa ql qc, .int .i64 self, .slice la1 ls.length lc1, .int .u64 seed]).toArray) rfl (by kernel_rfl) (by kernel_rfl) (by kernel_rfl) (fun _ _ _ h => h) (by decide) (by kernel_rfl) (by kernel_rfl) (yieldsIf_load_mid (by rfl) 35 (.tmp 6) (by rfl) Bw 0 (by rfl) ([.slice qa ql qc, .int .i64 self, .slice la1 ls.length lc1, .int .u64 seed]) _ (fun w' h => h) Tryd.underlying35 rfl infoWo) hS0 ?_
  try simp only [Act.put, List.setIfInBounds_toArray, List.set_cons_zero, List.set_cons_succ]
  refine wpAnyZ_take (i := 1) (oi := { dst := some 15, op := Op.move (Operand.tmp 7), type := 60, pos := "model.go:171", after := #[], guard := none }) (v := ?zv1_1) rfl (by kernel_rfl) (by kernel_rfl) (by kernel_rfl) (fun _ _ _ h => h) (by decide) (Or.inl ⟨by rfl, ?zy1_1⟩) (fun _ => hS0) ?zrest1_1
  case zy1_1 =>
    intro w _
    go_simp
    try with_reducible rfl
  try simp only [Act.put, List.setIfInBounds_toArray, List.set_cons_zero, List.set_cons_succ]
  refine wpAnyZ_ready (rs := [2]) (by kernel_rfl) (by simp) ?_
  refine AllReadyZ.cons (o := { dst := some 16, op := Op.call { callee := Callee.value (Operand.func 20), args := #[Operand.tmp 15], argTypes := #[60] }, type := 28, pos := "model.go:171", after := #[{ on := 1, ground := Ground.data }], guard := none }) rfl (fun K hK => ?_) AllReadyZ.nil
  go_simp
  refine (hnum.out W5 hdr.out).mono ?_
  rintro x W6 ⟨rfl, hb6⟩
  have hd6 : Hid (Below w3.heap.size w3 W6) := hdr.out.trans (hb6.out.mono hdr.out.size)
  have hS1 := hse.out W6 hd6.out
  have hw6 := (hb6.out.block R (Array.getElem?_eq_some_iff.1 hwd.out).1).trans hwd.out
  refine hK.out _ _ (fun _ => hS1) ?_
  clear hK K
  try simp only [Act.put, List.setIfInBounds_toArray, List.set_cons_zero, List.set_cons_succ]
  refine wpAnyZ_ready (rs := [3]) (by kernel_rfl) (by simp) ?_
  refine AllReadyZ.cons (o := { dst := none, op := Op.store 35 (Operand.tmp 4) (Operand.tmp 14), type := 0, pos := "model.go:171", after := #[{ on := 0, ground := Ground.data }, { on := 2, ground := Ground.chain }, { on := 0, ground := Ground.phase }, { on := 1, ground := Ground.textOnly Departure.lateStores }, { on := 2, ground := Ground.textOnly Departure.lateStoresUnsure }], guard := none }) rfl (fun K hK => ?_) AllReadyZ.nil
  refine step_store_row (by rfl) 35 (.tmp 4) (.tmp 14) (by rfl) R #[.slice qa ql qc, .int .i64 self, .slice la1 ls.length lc1, .int .u64 seed] (by rfl) (by rfl) 35 _ hw6 infoWo rfl (by simp [Value.oneCell']) ?_
  refine hK.out _ _ (fun h => absurd h (by decide)) ?_
  clear hK K
  try simp only [Act.put, List.setIfInBounds_toArray, List.set_cons_zero, List.set_cons_succ]
  refine wpAnyZ_take (i := 4) (oi := { dst := some 5, op := Op.assign (Operand.tmp 16), type := 28, pos := "model.go:171", after := #[{ on := 2, ground := Ground.data }, { on := 3, ground := Ground.chain }, { on := 0, ground := Ground.phase }, { on := 1, ground := Ground.phase }, { on := 2, ground := Ground.phase }, { on := 3, ground := Ground.phase }], guard := none }) (v := ?zv4_2) rfl (by kernel_rfl) (by kernel_rfl) (by kernel_rfl) (fun _ _ _ h => h) (by decide) (Or.inl ⟨by rfl, ?zy4_2⟩) (fun h => absurd h (by decide)) ?zrest4_2
  case zy4_2 =>
    intro w _
    go_simp
    try with_reducible rfl
  try simp only [Act.put, List.setIfInBounds_toArray, List.set_cons_zero, List.set_cons_succ]
  refine wpAnyZ_done (by kernel_rfl) ?_ _
  have hrow := Lib.hid (setRow_heap W6 R _ #[.slice qa ql qc, .int .i64 self, .slice la1 ls.length lc1, .int .u64 seed] _ _ hw6)
  have hfin : Hid (WoAns w (W6.setRow R #[.slice qa ql qc, .int .i64 self, .slice la1 ls.length lc1, .int .u64 seed]) (⟨is, self, ls, seed⟩, z) qa ql qc (.slice la1 ls.length lc1)) := by
    have h6 := hans.out.2.2.kept (S := fun _ => False) (.of_below hd6.out) (fun _ _ e => e)
    exact ⟨below_row13 (hans.out.1.trans (hd6.out.mono hans.out.1.size)) hord.out.2.1 _, (hans.out.2.1.below hd6.out).row13 hw6 _, h6.kept (KeptOff.row W6 R _) (h6.ne13 hw6 (by decide))⟩
  clear hS0 hS1 hse hnum hdr hd6 hans hwd hwo3 hw6
  go_wp2
  have s0 := cell_of_block (o := 0) hrow.out rfl
  have s1 := cell_of_block (o := 1) hrow.out rfl
  have s2 := cell_of_block (o := 2) hrow.out rfl
  have s3 := cell_of_block (o := 3) hrow.out rfl
  exact bodyPost_ret (v := .tuple #[.agg #[.slice qa ql qc, .int .i64 self, .slice la1 ls.length lc1, .int .u64 seed], .int .i64 z]) (by simp [results, Tryd.results12, go_sem, s0, s1, s2, s3]) rfl ⟨_, _, _, _, rfl, hfin⟩
end Go.Proofs.YtofkfajcibdneaaDoor
