/-
  A calendar: the program's take.
  A queue: taking one out.
-/
import Derived.Test.YtjlbkdghlijoeaaGreatHQ
import Derived.Test.YtjlbkdghlijoeaaGreatYH
import Derived.Test.YtjlbkdghlijoeaaGreatHL
import Derived.Test.YtjlbkdghlijoeaaGreatQT
namespace Go.Proofs.YtjlbkdghlijoeaaGreat
open Go.ChangeShapes Go.WideShapes Go.ChangeAt Go.Shelf Go.RowKit Go.Lib Go.Sort Go.Deep Go.Maps
set_option linter.unusedVariables false

set_option maxHeartbeats 4000000 in
set_option maxRecDepth 100000 in
theorem htake_of {w : World} {hb db mb lb : Nat} {W : Int} {ov : Value} {ds : List Int} {L : Int → List M} {fv : Int → Value} {S : Nat → Prop} {x : M} {T' : List M} (h : CalOf w hb db mb W lb ov ds L fv) (hS : ∀ k, COwn hb db mb lb ov ds fv k → S k) (hSl : ∀ k, S k → k < w.heap.size)
    (hx : x ∈ ds.flatMap L) (hp : (x :: T').Perm (ds.flatMap L)) (hO : InOrder ltM T') :
    Calls Tryz.prog 95 #[.pointer (some ⟨hb, 0, none⟩), .agg #[.int .i64 x.k.f, .int .i64 x.u]] w fun e w' => e = .returned x.val ∧ CalAtC w' hb S T' ∧ CStep w w' S S := by
  have mixed := mixed
  obtain ⟨B0, hB0⟩ : ∃ B0, B0 = w.heap.size := ⟨_, rfl⟩
  obtain ⟨B, hB⟩ : ∃ B, B = B0 + 1 := ⟨_, rfl⟩
  obtain ⟨W1, hW1⟩ : ∃ W1, W1 = w.alloc (.cells #[.int .i64 x.k.f, .int .i64 x.u] 150) := ⟨_, rfl⟩
  have hsz1 : W1.heap.size = w.heap.size + 1 := by rw [hW1]; simp
  obtain ⟨W2, hW2⟩ : ∃ W2, W2 = W1.alloc (.cells zeroM.cells 34) := ⟨_, rfl⟩
  have hsz2 : W2.heap.size = w.heap.size + 2 := by rw [hW2]; simp [hsz1]
  have hb1 : Below w.heap.size w W1 := by rw [hW1]; exact (Below.refl _ w).alloc (Nat.le_refl _) _
  have hb2 : Below w.heap.size w W2 := by rw [hW2]; exact hb1.alloc hb1.size _
  have hs1 : W1.heap[B0]? = some (.cells #[.int .i64 x.k.f, .int .i64 x.u] 150 (0, 0)) := by rw [hW1, hB0]; exact heap_alloc_new w _
  have hs2 : W2.heap[B0]? = some (.cells #[.int .i64 x.k.f, .int .i64 x.u] 150 (0, 0)) := by rw [hW2, Below.heap_alloc W1 _ B0 (by omega)]; exact hs1
  have hbz : BoxM W2 B zeroM := by rw [hW2, hB, hB0, ← hsz1]; exact BoxM.mk W1 zeroM
  have h2 := h.below hb2
  have hxf := h.days.fits x hx
  have hB0l : B0 < W2.heap.size := by omega
  -- what the loads of the cut's region read
  have hSS : ∀ w', KeptOff (DOwn db lb ov ds fv) W2 w' → w'.cell? ⟨hb, 0, none⟩ = some (.pointer (some ⟨db, 0, none⟩)) ∧ w'.cell? ⟨hb, 1, none⟩ = some (.map (some mb)) ∧ w'.cell? ⟨B0, 0, none⟩ = some (.int .i64 x.k.f) ∧ w'.cell? ⟨B0, 1, none⟩ = some (.int .i64 x.u) ∧
      (Instr.lookup 89 (.map (some mb)) (.agg #[.int .i64 x.k.f, .int .i64 x.u]) false).run Tryz.prog w' = .ok (.agg #[.int .i64 x.k.t, .int .i64 x.k.f, .int .i64 x.k.s]) w' := by
    intro w' hk
    have hr : CalRow w' hb db mb := (hk.block hb h2.row.lt (fun e => (h.off e).1 rfl)).trans h2.row
    have hsb : w'.heap[B0]? = some (.cells #[.int .i64 x.k.f, .int .i64 x.u] 150 (0, 0)) := (hk.block B0 hB0l (fun e => by have := h.own_lt (.inr (.inr e)); omega)).trans hs2
    exact ⟨hr.c0, hr.c1, by simp [World.cell?, hsb], by simp [World.cell?, hsb], (h2.keys.kept hk (fun e => (h.off e).2 rfl)).look hx hxf.1.2.1 hxf.2.2.2⟩
  have hcut : ∀ W', Below W2.heap.size W2 W' → Calls Tryz.prog 100 #[.pointer (some ⟨db, 0, none⟩), .agg #[.int .i64 x.k.t, .int .i64 x.k.f, .int .i64 x.k.s, .int .i64 0, .int .i64 0, .int .i64 x.u, .bool false]] W' fun e w5 => e = .returned x.val ∧
      Hid (TakeMid w hb db mb W lb ov ds L fv x B0 B w5 ∧ KeptOff (DOwn db lb ov ds fv) W2 w5 ∧ ∀ G, W2.heap.size ≤ G → BoxM W' G zeroM → BoxM w5 G zeroM) := by
    intro W' hb'
    have h3 := h2.below hb'
    refine (dcut_any h3.days hx ⟨x.k, 0, 0, x.u, false⟩ rfl rfl).mono ?_
    rintro e w5 ⟨he, hc⟩
    have hm := take_mid (B0 := B0) (B := B) h (hb2.trans (hb'.mono hb2.size)) hc h3 (hbz.below hb') ((hb'.block B0 hB0l).trans hs2) (by omega) (by omega)
    exact ⟨he, hm.1, (KeptOff.of_below hb').trans hm.2, fun G hG hz => hz.kept hm.2 (fun e => by have := h.own_lt (.inr (.inr e)); omega)⟩
  have k0 : KeptOff (DOwn db lb ov ds fv) W2 W2.drew := .of_below (Below.refl _ W2).drew
  have hbd : Below W2.heap.size W2 W2.drew := (Below.refl _ W2).drew
  have hst : ∀ (V : World) (G : Nat), BoxM V G zeroM → (storeCells ⟨G, 0, none⟩ x.cells.toList).run Tryz.prog V = .ok () (V.setRow G x.cells) := fun V G hz => by
    have := run_storeCells_at Tryz.prog G 0 34 x.cells.toList 0 zeroM.cells V hz (by rw [Array.length_toList]; exact Nat.le_refl _) (fun v hv => encM_one x v hv)
    simpa [M.cells, zeroM] using this
  have hcs : x.cells.size = 7 := rfl
  rw [show x.val = .agg x.cells from rfl] at hcut ⊢
  have hcut' := Lib.hid hcut
  clear hcut hs1 hs2 hbz h2 hB0l
  have hh := Lib.hid h
  have hS' := Lib.hid hS
  have hSl' := Lib.hid hSl
  have hp' := Lib.hid hp
  have hO' := Lib.hid hO
  have hxf' := Lib.hid hxf
  clear h hS hSl hp hO hxf hx
  generalize hD : DOwn db lb ov ds fv = D at *
  have hD' := Lib.hid hD
  clear hD
  go_enter Tryz.func95, Tryz.ntmps95
  go_upto_region 1 with (fail)
  rw [← hW1, show W1.alloc (.cells #[.int .i64 0, .int .i64 0, .int .i64 0, .int .i64 0, .int .i64 0, .int .i64 0, .bool false] 34) = W2 from hW2.symm, ← hB0, ← hB]
  have hszh := Lib.hid (And.intro hsz2 (And.intro hB0 hB))
  clear hW1 hW2 hsz1 hB0 hB hsz2
  go_region_held3 (fun w' => w'.cell? ⟨hb, 0, none⟩ = some (.pointer (some ⟨db, 0, none⟩)) ∧ w'.cell? ⟨hb, 1, none⟩ = some (.map (some mb)) ∧ w'.cell? ⟨B0, 0, none⟩ = some (.int .i64 x.k.f) ∧ w'.cell? ⟨B0, 1, none⟩ = some (.int .i64 x.u) ∧ (Instr.lookup 89 (.map (some mb)) (.agg #[.int .i64 x.k.f, .int .i64 x.u]) false).run Tryz.prog w' = .ok (.agg #[.int .i64 x.k.t, .int .i64 x.k.f, .int .i64 x.k.s]) w')
    (with_reducible (first | exact hSS _ k0 | exact hSS _ ((KeptOff.refl _ W2).al _).dr | exact hSS _ k5 | exact hSS _ (k5.al _) | exact hSS _ (k5.setr _ _ (Nat.le_refl _)) | exact hSS _ ((k5.al _).setr _ _ k5.size)))
    (first
      | (go_at_call 100; (with_reducible refine (hcut'.out _ (by first | exact hbd | exact ((Below.refl _ W2).alloc (Nat.le_refl _) _).drew)).mono ?_); rintro e w5 ⟨rfl, h5⟩; have k5 := h5.out.2.1; (first | (have hz5 := h5.out.2.2 W2.heap.size (Nat.le_refl _) (BoxM.mk W2 zeroM); have hs5 := hst w5 W2.heap.size hz5; have hz5' := Lib.hid hz5; clear hz5) | (have hs5 := hst (w5.alloc (.cells #[.int .i64 0, .int .i64 0, .int .i64 0, .int .i64 0, .int .i64 0, .int .i64 0, .bool false] 34)) w5.heap.size (BoxM.mk w5 zeroM)))))
  all_goals (first
    | (have hV : Hid (TakeMid w hb db mb W lb ov ds L fv x B0 B (w5.setRow W2.heap.size x.cells) ∧ BoxM (w5.setRow W2.heap.size x.cells) W2.heap.size x ∧ w.heap.size + 2 ≤ W2.heap.size) := ⟨h5.out.1.new hh.out (KeptOff.row _ _ _) (fun k e => by have := hszh.out.1; omega) (by have := hszh.out; omega) (by have := hszh.out; omega), hz5'.out.row x, by have := hszh.out.1; omega⟩
       clear hst hs5 hz5' h5 k5 k0 hbd hSS hb1 hcut' hb2
       generalize w5.setRow W2.heap.size x.cells = V at hV ⊢
       generalize W2.heap.size = G at hV ⊢)
    | (have hV : Hid (TakeMid w hb db mb W lb ov ds L fv x B0 B ((w5.alloc (.cells #[.int .i64 0, .int .i64 0, .int .i64 0, .int .i64 0, .int .i64 0, .int .i64 0, .bool false] 34)).setRow w5.heap.size x.cells) ∧ BoxM ((w5.alloc (.cells #[.int .i64 0, .int .i64 0, .int .i64 0, .int .i64 0, .int .i64 0, .int .i64 0, .bool false] 34)).setRow w5.heap.size x.cells) w5.heap.size x ∧ w.heap.size + 2 ≤ w5.heap.size) := ⟨h5.out.1.new hh.out (((KeptOff.refl (fun k => k = w5.heap.size) w5).al _).setr _ _ (Nat.le_refl _)) (fun k e => by have := hszh.out.1; have := k5.size; omega) (by have := hszh.out; omega) (by have := hszh.out; omega), (BoxM.mk w5 zeroM).row x, by have := hszh.out.1; have := k5.size; omega⟩
       clear hst hs5 h5 k0 hbd hSS hb1 hcut' hb2
       generalize (w5.alloc (.cells #[.int .i64 0, .int .i64 0, .int .i64 0, .int .i64 0, .int .i64 0, .int .i64 0, .bool false] 34)).setRow w5.heap.size x.cells = V at hV ⊢
       generalize w5.heap.size = G at hV ⊢
       clear k5))
  all_goals
    obtain ⟨ov', ds', L', fv', t1, t2, t3, t4, t5, t6, t7, t8⟩ := hV.out.1
    have hBl : B0 < V.heap.size := (Array.getElem?_eq_some_iff.1 t8).1
    have b0 : V.cell? ⟨B0, 0, none⟩ = some (.int .i64 x.k.f) := by simp [World.cell?, t8]
    have b1 : V.cell? ⟨B0, 1, none⟩ = some (.int .i64 x.u) := by simp [World.cell?, t8]
    have e0 := fun q => wide_cell (w := V) (a := ⟨B0, 0, none⟩) q hBl b0
    have e1 := fun q => wide_cell (w := V) (a := ⟨B0, 1, none⟩) q hBl b1
    have c1 := fun q => wide_cell (w := V) (a := ⟨hb, 1, none⟩) q t1.lt t1.c1
    have t4' := Lib.hid t4
    clear t1 t2 t3 t4 t5 t6 t7 t8 b0 b1 hBl hcs
    go_upto_region 2 with (fail)
    refine wp_region_wide_tail 5 (by kernel_rfl) (by kernel_rfl) ?_
    simp only [List.take_succ_cons, List.take_zero, List.drop_succ_cons, List.drop_zero]
    repeat (quiet_step (fail))
    refine wpQuiet_nil ?_
    refine wide_all fun W3 hb3 => ?_
    clear e0 e1 c1
    have hm3 := Lib.hid (hV.out.1.new hh.out (KeptOff.of_below (S := fun _ => False) hb3) (fun k e => e.elim) (by have := hszh.out; omega) (by have := hszh.out; omega))
    have hK3 := t4'.out.below' hb3
    have hG3 := Lib.hid (hV.out.2.1.below hb3)
    go_upto_region 3 with ((refine wpList_delete_keysC rfl _ _ rfl x rfl rfl hK3 hxf'.out hh.out.days.fits hp'.out hh.out.days.unlike ?_; intro w4 hK4 hk4))
    have hmbl := hh.out.keys.lt
    have hE := take_end hh.out hS'.out hSl'.out hm3.out hk4.out (by have := hszh.out; omega)
    have hG4 : BoxM w4 G x := hG3.out.kept hk4.out (fun e => by have := hV.out.2.2; omega)
    have hfin := Lib.hid (hE.2 T' hp'.out hK4.out (fun T'' hp2 hO2 => sorted_unique ((hp'.out.trans hp2.symm).cons_inv) hO'.out hO2 (List.pairwise_cons.1 (hh.out.days.unlike.perm hp'.out.symm)).2) (by have := hszh.out; omega))
    obtain ⟨-, z0, z1, z2, z3, z4, z5, z6⟩ := hG4.at
    simp only [Nat.zero_add] at z0 z1 z2 z3 z4 z5 z6
    have hB4 := hE.1
    clear hE hK3 hK4 hk4 hb3
    go_wp2_with (refine wpList_store_row rfl 34 (.tmp 4) (.tmp 25) rfl B x.cells rfl rfl 34 zeroM.cells hB4 infoS rfl (M.cells_one x) ?_)
    obtain ⟨-, s0, s1, s2, s3, s4, s5, s6⟩ := (hB4.row x).at
    simp only [Nat.zero_add] at s0 s1 s2 s3 s4 s5 s6
    exact bodyPost_ret (v := x.val) (by simp [results, Tryz.results95, go_sem, s0, s1, s2, s3, s4, s5, s6, M.val]) rfl ⟨rfl, hfin.out⟩
/-- Taking one out of a calendar. -/
theorem htake_any {w : World} {hb : Nat} {S : Nat → Prop} {T T' : List M} {x : M} (h : CalAtC w hb S T) (hp : (x :: T').Perm T) (hO : InOrder ltM T') :
    Calls Tryz.prog 95 #[.pointer (some ⟨hb, 0, none⟩), .agg #[.int .i64 x.k.f, .int .i64 x.u]] w fun e w' => e = .returned x.val ∧ CalAtC w' hb S T' ∧ CStep w w' S S := by
  obtain ⟨db, mb, W, lb, ov, ds, L, fv, h1, rfl, h3, h4⟩ := h
  exact htake_of h1 h3 h4 (hp.mem_iff.1 (List.mem_cons_self ..)) hp hO
end Go.Proofs.YtjlbkdghlijoeaaGreat
namespace Go.Proofs.YtjlbkdghlijoeaaGreat
open Go.ChangeShapes Go.WideShapes Go.ChangeAt Go.Shelf Go.RowKit Go.Lib Go.Sort Go.Deep Go.Maps
set_option linter.unusedVariables false

/-- What a take leaves. -/
def TakeRes (w : World) (b0 hb tb mb n : Nat) (v : Value) (l : List M) (p : Nat) (w' : World) : Prop :=
  ∃ v' l', TreeAt w' b0 tb v' l' ∧ (l.getD p default :: l').Perm l ∧ HeapOf w' hb tb mb ∧ SendsAt w' mb n l' ∧ KeptOff (fun k => k = tb ∨ k = mb ∨ v.ownBlock = some k) w w' ∧ v'.ownBlock = v.ownBlock

set_option maxHeartbeats 4000000 in
set_option maxRecDepth 100000 in
theorem htake_anyH {w : World} {b0 hb tb mb n : Nat} {v : Value} {l : List M} (hh : HeapOf w hb tb mb) (ht : TreeAt w b0 tb v l) (hs : SendsAt w mb n l) (hU : Unlike l) (lh : hb < b0) (lm : mb < b0) (dt : hb ≠ tb ∧ hb ≠ mb ∧ tb ≠ mb) (p : Nat) (hp : p < l.length) :
    Calls Tryz.prog 74 #[.pointer (some ⟨hb, 0, none⟩), .int .i64 p] w fun e w' => e = .returned (l.getD p default).val ∧ TakeRes w b0 hb tb mb n v l p w' := by
  have mixed := mixed
  obtain ⟨W0, hW0⟩ : ∃ W0, W0 = w.alloc (.cells #[.int .i64 0, .int .i64 0, .int .i64 0, .int .i64 0, .int .i64 0, .int .i64 0, .bool false] 34) := ⟨_, rfl⟩
  have hk0 : Hid (KeptOff (fun _ => False) w W0) := by rw [hW0]; exact .of_below ((Below.refl _ w).alloc (Nat.le_refl _) _)
  have hR0 : Hid (BoxM W0 w.heap.size zeroM) := by rw [hW0]; exact BoxM.mk w zeroM
  have hh0 := hh.kept hk0.out (fun e => e)
  have ht0 := ht.kept hk0.out (fun e => e) (fun _ _ e => e)
  have hs0 := Lib.hid (hs.kept hk0.out (fun e => e))
  have c0 := hh0.c0
  have hcut := tcut_any ht0 p hp
  have hmf : (l.getD p default).fits := ht.fits _ (by rw [List.getD_eq_getElem?_getD, List.getElem?_eq_getElem hp]; exact List.getElem_mem hp)
  have hbd := ht.bd
  have hoffb : ∀ k, v.ownBlock = some k → b0 ≤ k := fun k hk => (ht.own.lt k hk).1
  have hrowlt : ∀ k, v.ownBlock = some k → k < w.heap.size := fun k hk => (ht.own.lt k hk).2
  have htl := ht.lt
  have hoffb' := Lib.hid hoffb
  have hrowlt' := Lib.hid hrowlt
  have hU' := Lib.hid hU
  have hh0' := Lib.hid hh0
  have hm' : Hid (∀ l' : List M, (l.getD p default :: l').Perm l → ∀ f u, hasS l' f u = (hasS l f u && !(decide (f = (l.getD p default).k.f) && decide (u = (l.getD p default).u)))) := fun l' hp' f u => hasS_erase hp' hU f u
  clear hh ht hs hU hoffb hrowlt hh0 ht0
  have hTR : Hid (∀ w', TakeRes w b0 hb tb mb n v l p w' ↔ ∃ v' l', TreeAt w' b0 tb v' l' ∧ (l.getD p default :: l').Perm l ∧ HeapOf w' hb tb mb ∧ SendsAt w' mb n l' ∧ KeptOff (fun k => k = tb ∨ k = mb ∨ v.ownBlock = some k) w w' ∧ v'.ownBlock = v.ownBlock) := fun _ => Iff.rfl
  have hCR : Hid (∀ w', CutResH W0 b0 tb v l p w' ↔ ∃ v' l', TreeAt w' b0 tb v' l' ∧ (l.getD p default :: l').Perm l ∧ KeptOff (fun k => k = tb ∨ v.ownBlock = some k) W0 w' ∧ v'.ownBlock = v.ownBlock) := fun _ => Iff.rfl
  generalize TakeRes w b0 hb tb mb n v l p = R at hTR ⊢
  generalize CutResH W0 b0 tb v l p = R0 at hCR hcut
  generalize l.getD p default = m at *
  have hcut' := Lib.hid hcut
  clear hcut
  go_enter Tryz.func74, Tryz.ntmps74
  go_upto_region 1 with (fail)
  rw [← hW0]
  have hsz0 : Hid (W0.heap.size = w.heap.size + 1) := by show _ = _; rw [hW0]; simp
  clear hW0
  go_upto_region 2 with (first
    | (go_at_call 80; refine hcut'.out.mono ?_; rintro e w1 ⟨rfl, hc1⟩; have hc1' := Lib.hid hc1; clear hc1)
    | (refine wpList_store_row rfl 34 (.tmp 5) (.tmp 11) rfl w1.heap.size m.cells rfl rfl 34 zeroM.cells (heap_alloc_new w1 _) infoS rfl (M.cells_one m) ?_))
  obtain ⟨v', l', hT1, hp1, hk1, ho1⟩ := (hCR.out w1).1 hc1'.out
  have hZ := BoxM.mk w1 zeroM
  have hG2 : BoxM ((w1.alloc (.cells #[.int .i64 0, .int .i64 0, .int .i64 0, .int .i64 0, .int .i64 0, .int .i64 0, .bool false] 34)).setRow w1.heap.size m.cells) w1.heap.size m := hZ.row m
  have hk2 : KeptOff (fun _ => False) w1 ((w1.alloc (.cells #[.int .i64 0, .int .i64 0, .int .i64 0, .int .i64 0, .int .i64 0, .int .i64 0, .bool false] 34)).setRow w1.heap.size m.cells) :=
    (KeptOff.of_below (S := fun _ => False) ((Below.refl _ w1).alloc (Nat.le_refl _) _)).then_new (KeptOff.setRow _ _ _) (fun k hk e => by omega)
  have hsz1 := hk1.size
  have hlt0 : ∀ k, v.ownBlock = some k → k ≠ w.heap.size := fun k hk e => by have := hrowlt'.out k hk; omega
  have hoff1 : ∀ x, x < b0 → x ≠ tb → ¬ (x = tb ∨ v.ownBlock = some x) := fun x hx hxt e => by
    rcases e with e | e
    · exact hxt e
    · have := hoffb'.out x e; omega
  have hh2 := (hh0'.out.kept hk1 (hoff1 hb lh dt.1)).kept hk2 (fun e => e)
  have hs2 := (hs0.out.kept hk1 (hoff1 mb lm (Ne.symm dt.2.2))).kept hk2 (fun e => e)
  have hT2 := hT1.kept hk2 (fun e => e) (fun _ _ e => e)
  have hR2 := (hR0.out.kept hk1 (fun e => e.elim (fun e => by omega) (fun e => hlt0 _ e rfl))).kept hk2 (fun e => e)
  have hk02 : KeptOff (fun k => k = tb ∨ k = mb ∨ v.ownBlock = some k) w ((w1.alloc (.cells #[.int .i64 0, .int .i64 0, .int .i64 0, .int .i64 0, .int .i64 0, .int .i64 0, .bool false] 34)).setRow w1.heap.size m.cells) :=
    ((hk0.out.mono (fun _ _ e => e.elim)).trans (hk1.mono (fun k _ e => e.elim .inl (fun e => .inr (.inr e))))).trans (hk2.mono (fun _ _ e => e.elim))
  have hGb : w.heap.size < w1.heap.size := by have := hsz0.out; omega
  have hGo := hT1.own.lt
  generalize hGe : w1.heap.size = G at *
  generalize (w1.alloc (.cells #[.int .i64 0, .int .i64 0, .int .i64 0, .int .i64 0, .int .i64 0, .int .i64 0, .bool false] 34)).setRow G m.cells = W2 at *
  have hGW := hG2.lt
  have hhW := hh2.lt
  obtain ⟨-, z0, z1, z2, z3, z4, z5, z6⟩ := hG2.at
  simp only [Nat.zero_add] at z0 z1 z2 z3 z4 z5 z6
  have x0 := fun q => wide_cell (w := W2) q hGW z0
  have x1 := fun q => wide_cell (w := W2) q hGW z1
  have x2 := fun q => wide_cell (w := W2) q hGW z2
  have x3 := fun q => wide_cell (w := W2) q hGW z3
  have x4 := fun q => wide_cell (w := W2) q hGW z4
  have x5 := fun q => wide_cell (w := W2) q hGW z5
  have x6 := fun q => wide_cell (w := W2) q hGW z6
  have c1 := fun q => wide_cell (w := W2) q hhW hh2.c1
  have hsend := fun q : WB => (sending_anyH m (wide W2 q)).mono (R' := fun e w' => e = .returned (sendV m.k.f m.u) ∧ Below (wide W2 q).heap.size (wide W2 q) w') (fun e w' h => ⟨h.1, h.2.below⟩)
  simp only [M.val, sendV] at hsend
  have hQ := Lib.hid (And.intro hh2 (And.intro hs2 (And.intro hT2 (And.intro hR2 (And.intro hG2 hk02)))))
  have hp1' := Lib.hid hp1
  have ho1' := Lib.hid ho1
  clear hc1' hCR hT1 hp1 hk1 ho1 hZ hk2 hsz1 hlt0 hoff1 hh2 hs2 hT2 hR2 hk02 hGe hG2 z0 z1 z2 z3 z4 z5 z6 hcut' c0 hsz0 hGo
  refine wp_region_wide_tail 6 (by kernel_rfl) (by kernel_rfl) ?_
  simp only [List.take_succ_cons, List.take_zero, List.drop_succ_cons, List.drop_zero]
  repeat (quiet_step (exact Calls.wide_of (hsend _)))
  refine wpQuiet_nil ?_
  refine wide_all fun W3 hb3 => ?_
  clear x0 x1 x2 x3 x4 x5 x6 c1 hsend
  obtain ⟨hh2, hs2, hT2, hR2, hG2, hk02⟩ := hQ.out
  have hk3 : KeptOff (fun _ => False) W2 W3 := .of_below hb3
  obtain ⟨D, hown, hD⟩ := hs2.kept hk3 (fun e => e)
  have hD' := Lib.hid hD
  have hkey : keyOf Tryz.prog 130 (.agg #[.int .i64 m.k.f, .int .i64 m.u]) = some (sendL m.k.f m.u) := keyOf_sendH hmf.1.2.1 hmf.2.2.2
  have hlm : mb ≠ G ∧ mb ≠ w.heap.size := by omega
  have hfin : ∀ w4, w4.ownsMap Tryz.prog 130 unitElem mb n (D.del (sendL m.k.f m.u)) → W3.mapTurned w4 mb → Hid (BoxM w4 G m ∧ BoxM w4 w.heap.size zeroM ∧ R (w4.setRow w.heap.size m.cells)) := by
    intro w4 hown4 hturn4
    have hk4 := KeptOff.turned hturn4
    have hs4 : SendsAt w4 mb n l' := sends_del m hmf hD'.out hown4 (hm'.out l' hp1'.out)
    have hR4 := (hR2.kept hk3 (fun e => e)).kept hk4 (Ne.symm hlm.2)
    have hk5 := KeptOff.setRow w4 w.heap.size m.cells
    have hb0 : ∀ k, v'.ownBlock = some k → b0 ≤ k ∧ k < w.heap.size := fun k hk => ⟨hoffb'.out k (ho1'.out ▸ hk), hrowlt'.out k (ho1'.out ▸ hk)⟩
    refine ⟨(hG2.kept hk3 (fun e => e)).kept hk4 (Ne.symm hlm.1), hR4, (hTR.out _).2 ⟨v', l', ?_, hp1'.out, ?_, ?_, ?_, ho1'.out⟩⟩
    · exact (((hT2.kept hk3 (fun e => e) (fun _ _ e => e)).kept hk4 dt.2.2 (fun k hk e => by have := (hb0 k hk).1; omega)).kept hk5 (by omega) (fun k hk e => by have := (hb0 k hk).2; omega))
    · exact ((hh2.kept hk3 (fun e => e)).kept hk4 dt.2.1).kept hk5 (by omega)
    · exact hs4.kept hk5 hlm.2
    · exact ((hk02.trans (hk3.mono (fun _ _ e => e.elim))).trans (hk4.mono (fun k _ e => .inr (.inl e)))).then_new hk5 (fun k hk e => by omega)
  have hfin' := Lib.hid hfin
  clear hfin hQ hh2 hs2 hT2 hR2 hG2 hk02 hk3 hD hb3 hlm
  go_upto_region 3 with ((at_delete; refine wpList_delete_own _ rfl _ _ 84 130 rfl 140 sendLawH Tryz.underlying84 unitElem mb n D rfl hown _ _ rfl hkey ?_; intro w4 hown4 hturn4; have hQ4 := hfin'.out w4 hown4 hturn4; clear hown4 hturn4))
  clear hown hfin' hD' hkey
  obtain ⟨-, x0, x1, x2, x3, x4, x5, x6⟩ := hQ4.out.1.at
  simp only [Nat.zero_add] at x0 x1 x2 x3 x4 x5 x6
  go_wp2_with (refine wpList_store_row rfl 34 (.tmp 4) (.tmp 18) rfl w.heap.size m.cells rfl rfl 34 zeroM.cells hQ4.out.2.1 infoS rfl (M.cells_one m) ?_)
  obtain ⟨-, s0, s1, s2, s3, s4, s5, s6⟩ := (hQ4.out.2.1.row m).at
  simp only [Nat.zero_add] at s0 s1 s2 s3 s4 s5 s6
  exact bodyPost_ret (v := m.val) (by simp [results, Tryz.results74, go_sem, s0, s1, s2, s3, s4, s5, s6, M.val]) rfl ⟨rfl, hQ4.out.2.2⟩
end Go.Proofs.YtjlbkdghlijoeaaGreat
