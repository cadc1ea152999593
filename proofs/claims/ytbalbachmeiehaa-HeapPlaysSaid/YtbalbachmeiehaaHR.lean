/-
  A queue: taking one out.
-/
import Derived.Test.YtbalbachmeiehaaHQ
import Derived.Test.YtbalbachmeiehaaHL
import Derived.Test.YtbalbachmeiehaaQT
namespace Go.Proofs.Ytbalbachmeiehaa
open Go.ChangeShapes Go.WideShapes Go.ChangeAt Go.Shelf Go.RowKit Go.Lib Go.Sort Go.Deep Go.Maps
set_option linter.unusedVariables false

theorem KeptOff.turned {w w' : World} {b : Nat} (h : w.mapTurned w' b) : KeptOff (fun k => k = b) w w' :=
  ⟨h.grown.os, h.grown.tape, h.grown.output, h.grown.size, fun k hk hn => h.grown.block k hk (fun e => hn (Option.some.inj e))⟩

/-- What a take leaves. -/
def TakeRes (w : World) (b0 hb tb mb n : Nat) (v : Value) (l : List M) (p : Nat) (w' : World) : Prop :=
  ∃ v' l', TreeAt w' b0 tb v' l' ∧ (l.getD p default :: l').Perm l ∧ HeapOf w' hb tb mb ∧ SendsAt w' mb n l' ∧ KeptOff (fun k => k = tb ∨ k = mb ∨ v.ownBlock = some k) w w' ∧ v'.ownBlock = v.ownBlock

set_option maxHeartbeats 4000000 in
set_option maxRecDepth 100000 in
theorem htake_any {w : World} {b0 hb tb mb n : Nat} {v : Value} {l : List M} (hh : HeapOf w hb tb mb) (ht : TreeAt w b0 tb v l) (hs : SendsAt w mb n l) (hU : Unlike l) (lh : hb < b0) (lm : mb < b0) (dt : hb ≠ tb ∧ hb ≠ mb ∧ tb ≠ mb) (p : Nat) (hp : p < l.length) :
    Calls Try.prog 34 #[.pointer (some ⟨hb, 0, none⟩), .int .i64 p] w fun e w' => e = .returned (l.getD p default).val ∧ TakeRes w b0 hb tb mb n v l p w' := by
  have mixed := mixed
  obtain ⟨W0, hW0⟩ : ∃ W0, W0 = w.alloc (.cells #[.int .i64 0, .int .i64 0, .int .i64 0, .int .i64 0, .int .i64 0, .int .i64 0, .bool false] 31) := ⟨_, rfl⟩
  have hk0 : Hid (KeptOff (fun _ => False) w W0) := by rw [hW0]; exact .of_below ((Below.refl _ w).alloc (Nat.le_refl _) _)
  have hR0 : Hid (BoxM W0 w.heap.size zeroM) := by rw [hW0]; exact BoxM.mk w zeroM
  have hh0 := hh.kept hk0.out (fun e => e)
  have ht0 := ht.kept hk0.out (fun e => e) (fun _ _ e => e)
  have hs0 := Lib.hid (hs.kept hk0.out (fun e => e))
  have c0 := hh0.c0
  have hcut := tcut_any ht0 p hp
  have hmf : (l.getD p default).fits := ht.fits _ (by rw [List.getD_eq_getElem?_getD, List.getElem?_eq_getElem hp]; exact List.getElem_mem hp)
  have hbd := ht.bd
  have hoffb : ∀ k, v.ownBlock = some k → b0 ≤ k := fun k hk => (ht.own.lt k hk).1
  have hrowlt : ∀ k, v.ownBlock = some k → k < w.heap.size := fun k hk => (ht.own.lt k hk).2
  have htl := ht.lt
  have hoffb' := Lib.hid hoffb
  have hrowlt' := Lib.hid hrowlt
  have hU' := Lib.hid hU
  have hh0' := Lib.hid hh0
  have hm' : Hid (∀ l' : List M, (l.getD p default :: l').Perm l → ∀ f u, hasS l' f u = (hasS l f u && !(decide (f = (l.getD p default).k.f) && decide (u = (l.getD p default).u)))) := fun l' hp' f u => hasS_erase hp' hU f u
  clear hh ht hs hU hoffb hrowlt hh0 ht0
  have hTR : Hid (∀ w', TakeRes w b0 hb tb mb n v l p w' ↔ ∃ v' l', TreeAt w' b0 tb v' l' ∧ (l.getD p default :: l').Perm l ∧ HeapOf w' hb tb mb ∧ SendsAt w' mb n l' ∧ KeptOff (fun k => k = tb ∨ k = mb ∨ v.ownBlock = some k) w w' ∧ v'.ownBlock = v.ownBlock) := fun _ => Iff.rfl
  have hCR : Hid (∀ w', CutRes W0 b0 tb v l p w' ↔ ∃ v' l', TreeAt w' b0 tb v' l' ∧ (l.getD p default :: l').Perm l ∧ KeptOff (fun k => k = tb ∨ v.ownBlock = some k) W0 w' ∧ v'.ownBlock = v.ownBlock) := fun _ => Iff.rfl
  generalize TakeRes w b0 hb tb mb n v l p = R at hTR ⊢
  generalize CutRes W0 b0 tb v l p = R0 at hCR hcut
  generalize l.getD p default = m at *
  have hcut' := Lib.hid hcut
  clear hcut
  go_enter Try.func34, Try.ntmps34
  go_upto_region 1 with (fail)
  rw [← hW0]
  have hsz0 : Hid (W0.heap.size = w.heap.size + 1) := by show _ = _; rw [hW0]; simp
  clear hW0
  go_upto_region 2 with (first
    | (go_at_call 42; refine hcut'.out.mono ?_; rintro e w1 ⟨rfl, hc1⟩; have hc1' := Lib.hid hc1; clear hc1)
    | (refine wpList_store_row rfl 31 (.tmp 5) (.tmp 11) rfl w1.heap.size m.cells rfl rfl 31 zeroM.cells (heap_alloc_new w1 _) infoS rfl (M.cells_one m) ?_))
  obtain ⟨v', l', hT1, hp1, hk1, ho1⟩ := (hCR.out w1).1 hc1'.out
  have hZ := BoxM.mk w1 zeroM
  have hG2 : BoxM ((w1.alloc (.cells #[.int .i64 0, .int .i64 0, .int .i64 0, .int .i64 0, .int .i64 0, .int .i64 0, .bool false] 31)).setRow w1.heap.size m.cells) w1.heap.size m := hZ.row m
  have hk2 : KeptOff (fun _ => False) w1 ((w1.alloc (.cells #[.int .i64 0, .int .i64 0, .int .i64 0, .int .i64 0, .int .i64 0, .int .i64 0, .bool false] 31)).setRow w1.heap.size m.cells) :=
    (KeptOff.of_below (S := fun _ => False) ((Below.refl _ w1).alloc (Nat.le_refl _) _)).then_new (KeptOff.setRow _ _ _) (fun k hk e => by omega)
  have hsz1 := hk1.size
  have hlt0 : ∀ k, v.ownBlock = some k → k ≠ w.heap.size := fun k hk e => by have := hrowlt'.out k hk; omega
  have hoff1 : ∀ x, x < b0 → x ≠ tb → ¬ (x = tb ∨ v.ownBlock = some x) := fun x hx hxt e => by
    rcases e with e | e
    · exact hxt e
    · have := hoffb'.out x e; omega
  have hh2 := (hh0'.out.kept hk1 (hoff1 hb lh dt.1)).kept hk2 (fun e => e)
  have hs2 := (hs0.out.kept hk1 (hoff1 mb lm (Ne.symm dt.2.2))).kept hk2 (fun e => e)
  have hT2 := hT1.kept hk2 (fun e => e) (fun _ _ e => e)
  have hR2 := (hR0.out.kept hk1 (fun e => e.elim (fun e => by omega) (fun e => hlt0 _ e rfl))).kept hk2 (fun e => e)
  have hk02 : KeptOff (fun k => k = tb ∨ k = mb ∨ v.ownBlock = some k) w ((w1.alloc (.cells #[.int .i64 0, .int .i64 0, .int .i64 0, .int .i64 0, .int .i64 0, .int .i64 0, .bool false] 31)).setRow w1.heap.size m.cells) :=
    ((hk0.out.mono (fun _ _ e => e.elim)).trans (hk1.mono (fun k _ e => e.elim .inl (fun e => .inr (.inr e))))).trans (hk2.mono (fun _ _ e => e.elim))
  have hGb : w.heap.size < w1.heap.size := by have := hsz0.out; omega
  have hGo := hT1.own.lt
  generalize hGe : w1.heap.size = G at *
  generalize (w1.alloc (.cells #[.int .i64 0, .int .i64 0, .int .i64 0, .int .i64 0, .int .i64 0, .int .i64 0, .bool false] 31)).setRow G m.cells = W2 at *
  have hGW := hG2.lt
  have hhW := hh2.lt
  obtain ⟨-, z0, z1, z2, z3, z4, z5, z6⟩ := hG2.at
  simp only [Nat.zero_add] at z0 z1 z2 z3 z4 z5 z6
  have x0 := fun q => wide_cell (w := W2) q hGW z0
  have x1 := fun q => wide_cell (w := W2) q hGW z1
  have x2 := fun q => wide_cell (w := W2) q hGW z2
  have x3 := fun q => wide_cell (w := W2) q hGW z3
  have x4 := fun q => wide_cell (w := W2) q hGW z4
  have x5 := fun q => wide_cell (w := W2) q hGW z5
  have x6 := fun q => wide_cell (w := W2) q hGW z6
  have c1 := fun q => wide_cell (w := W2) q hhW hh2.c1
  have hsend := fun q : WB => (sending_any m (wide W2 q)).mono (R' := fun e w' => e = .returned (sendV m.k.f m.u) ∧ Below (wide W2 q).heap.size (wide W2 q) w') (fun e w' h => ⟨h.1, h.2.below⟩)
  simp only [M.val, sendV] at hsend
  have hQ := Lib.hid (And.intro hh2 (And.intro hs2 (And.intro hT2 (And.intro hR2 (And.intro hG2 hk02)))))
  have hp1' := Lib.hid hp1
  have ho1' := Lib.hid ho1
  clear hc1' hCR hT1 hp1 hk1 ho1 hZ hk2 hsz1 hlt0 hoff1 hh2 hs2 hT2 hR2 hk02 hGe hG2 z0 z1 z2 z3 z4 z5 z6 hcut' c0 hsz0 hGo
  refine wp_region_wide_tail 6 (by kernel_rfl) (by kernel_rfl) ?_
  simp only [List.take_succ_cons, List.take_zero, List.drop_succ_cons, List.drop_zero]
  repeat (quiet_step (exact Calls.wide_of (hsend _)))
  refine wpQuiet_nil ?_
  refine wide_all fun W3 hb3 => ?_
  clear x0 x1 x2 x3 x4 x5 x6 c1 hsend
  obtain ⟨hh2, hs2, hT2, hR2, hG2, hk02⟩ := hQ.out
  have hk3 : KeptOff (fun _ => False) W2 W3 := .of_below hb3
  obtain ⟨D, hown, hD⟩ := hs2.kept hk3 (fun e => e)
  have hD' := Lib.hid hD
  have hkey : keyOf Try.prog 68 (.agg #[.int .i64 m.k.f, .int .i64 m.u]) = some (sendL m.k.f m.u) := keyOf_send hmf.1.2.1 hmf.2.2.2
  have hlm : mb ≠ G ∧ mb ≠ w.heap.size := by omega
  have hfin : ∀ w4, w4.ownsMap Try.prog 68 unitElem mb n (D.del (sendL m.k.f m.u)) → W3.mapTurned w4 mb → Hid (BoxM w4 G m ∧ BoxM w4 w.heap.size zeroM ∧ R (w4.setRow w.heap.size m.cells)) := by
    intro w4 hown4 hturn4
    have hk4 := KeptOff.turned hturn4
    have hs4 : SendsAt w4 mb n l' := sends_del m hmf hD'.out hown4 (hm'.out l' hp1'.out)
    have hR4 := (hR2.kept hk3 (fun e => e)).kept hk4 (Ne.symm hlm.2)
    have hk5 := KeptOff.setRow w4 w.heap.size m.cells
    have hb0 : ∀ k, v'.ownBlock = some k → b0 ≤ k ∧ k < w.heap.size := fun k hk => ⟨hoffb'.out k (ho1'.out ▸ hk), hrowlt'.out k (ho1'.out ▸ hk)⟩
    refine ⟨(hG2.kept hk3 (fun e => e)).kept hk4 (Ne.symm hlm.1), hR4, (hTR.out _).2 ⟨v', l', ?_, hp1'.out, ?_, ?_, ?_, ho1'.out⟩⟩
    · exact (((hT2.kept hk3 (fun e => e) (fun _ _ e => e)).kept hk4 dt.2.2 (fun k hk e => by have := (hb0 k hk).1; omega)).kept hk5 (by omega) (fun k hk e => by have := (hb0 k hk).2; omega))
    · exact ((hh2.kept hk3 (fun e => e)).kept hk4 dt.2.1).kept hk5 (by omega)
    · exact hs4.kept hk5 hlm.2
    · exact ((hk02.trans (hk3.mono (fun _ _ e => e.elim))).trans (hk4.mono (fun k _ e => .inr (.inl e)))).then_new hk5 (fun k hk e => by omega)
  have hfin' := Lib.hid hfin
  clear hfin hQ hh2 hs2 hT2 hR2 hG2 hk02 hk3 hD hb3 hlm
  go_upto_region 3 with ((at_delete; refine wpList_delete_own _ rfl _ _ 51 68 rfl 71 sendLaw Try.underlying51 unitElem mb n D rfl hown _ _ rfl hkey ?_; intro w4 hown4 hturn4; have hQ4 := hfin'.out w4 hown4 hturn4; clear hown4 hturn4))
  clear hown hfin' hD' hkey
  obtain ⟨-, x0, x1, x2, x3, x4, x5, x6⟩ := hQ4.out.1.at
  simp only [Nat.zero_add] at x0 x1 x2 x3 x4 x5 x6
  go_wp2_with (refine wpList_store_row rfl 31 (.tmp 4) (.tmp 18) rfl w.heap.size m.cells rfl rfl 31 zeroM.cells hQ4.out.2.1 infoS rfl (M.cells_one m) ?_)
  obtain ⟨-, s0, s1, s2, s3, s4, s5, s6⟩ := (hQ4.out.2.1.row m).at
  simp only [Nat.zero_add] at s0 s1 s2 s3 s4 s5 s6
  exact bodyPost_ret (v := m.val) (by simp [results, Try.results34, go_sem, s0, s1, s2, s3, s4, s5, s6, M.val]) rfl ⟨rfl, hQ4.out.2.2⟩
end Go.Proofs.Ytbalbachmeiehaa
