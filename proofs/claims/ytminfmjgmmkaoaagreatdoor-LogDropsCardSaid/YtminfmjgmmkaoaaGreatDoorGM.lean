/-
  A log's Try.
  A new log of a process that stands at the beginning.
-/
import Derived.Test.YtminfmjgmmkaoaaGreatDoorGK
namespace Go.Proofs.YtminfmjgmmkaoaaGreatDoor
open Go.ChangeShapes Go.WideShapes Go.ChangeAt Go.Shelf Go.RowKit Go.Lib Go.Sort Go.Deep
set_option linter.unusedVariables false
set_option maxRecDepth 4000
set_option linter.unusedSimpArgs false

/-- What next answers: an entry, a state, an error; Q is what is said of them. -/
def NextA (Q : Array Value → Array Value → Int → World → World → Prop) (w : World) (x : Ending) (w2 : World) : Prop :=
  ∃ EA SA e, x = .returned (.tuple #[.agg EA, .agg SA, .int .i64 e]) ∧ Hid (EA.size = 19 ∧ SA.size = 10 ∧ EA.all (·.oneCell') = true ∧ SA.all (·.oneCell') = true ∧ Below w.heap.size w w2 ∧ Q EA SA e w w2)
theorem range_row {w : World} {g : Nat} {cs : Array Value} {T : TypeId} (h : w.heap[g]? = some (.cells cs T (0, 0))) : w.rangeAt g 0 cs.toList := range_block h
def TryR (Q : Array Value → Array Value → Int → World → World → Prop) (w w' : World) (EA : Array Value) (e : Int) : Prop :=
  Below w.heap.size w w' ∧ ∃ SA wa wb, Below w.heap.size w wa ∧ Q EA SA e wa wb ∧ KeptOff (fun k => w.heap.size ≤ k ∧ k < wa.heap.size) wb w'
set_option maxHeartbeats 8000000 in
theorem lgTry_any {w : World} {lb : Nat} {m : M} {uv kv : Value} {Q : Array Value → Array Value → Int → World → World → Prop}
    (hn : ∀ w', Below w.heap.size w w' → Calls Tryz.prog 30 #[.pointer (some ⟨lb, 0, none⟩), m.val, uv, kv] w' (NextA Q w')) :
    Calls Tryz.prog 20 #[.pointer (some ⟨lb, 0, none⟩), m.val, uv, kv] w fun x w' => ∃ EA e, x = .returned (.tuple #[.agg EA, .int .i64 e]) ∧ Hid (TryR Q w w' EA e) := by
  have hn' := fun (o1 o2 : Obj) => hn _ (((Below.refl _ w).alloc (Nat.le_refl _) o1).alloc (by simp) o2)
  have hb0 : Hid (Below w.heap.size w ((w.alloc (.cells (encMs m).toArray 42)).alloc (.cells z19 44))) := Lib.hid (((Below.refl _ w).alloc (Nat.le_refl _) _).alloc (by simp) _)
  have hR0 : Hid (((w.alloc (.cells (encMs m).toArray 42)).alloc (.cells z19 44)).heap[w.heap.size + 1]? = some (.cells z19 44 (0, 0))) := Lib.hid (by have := heap_alloc_new (w.alloc (.cells (encMs m).toArray 42)) (.cells z19 44); rwa [World.size_alloc] at this)
  have hL : Hid (∀ o, ((w.alloc (.cells (encMs m).toArray 42)).alloc o).rangeAt w.heap.size 0 (encMs m)) := Lib.hid (fun o => by
    have := range_block (((Below.refl _ (w.alloc (.cells (encMs m).toArray 42))).alloc (Nat.le_refl _) o).block w.heap.size (by simp) |>.trans (heap_alloc_new w (.cells (encMs m).toArray 42)))
    simpa using this)
  simp only [M.val_eq] at hn' ⊢
  have hlm : (encMs m).length = 7 := rfl
  generalize encMs m = cm at *
  clear hn
  go_enter Tryz.func20, Tryz.ntmps20
  go_wp2_with (first
    | (refine wpList_load_mid rfl 42 (.tmp 5) rfl w.heap.size 0 rfl cm _ (hL.out _) Tryz.underlying42 rfl (by rw [hlm]; exact infoMe) ?_)
    | fail)
  refine (hn' _ _).mono ?_
  rintro x w2 ⟨EA, SA, e, rfl, hq⟩
  have hB2 := Lib.hid (hb0.out.trans (hq.out.2.2.2.2.1.mono hb0.out.size))
  have hR2 := Lib.hid ((hq.out.2.2.2.2.1.block _ (Array.getElem?_eq_some_iff.1 hR0.out).1).trans hR0.out)
  have hEs := hq.out.1
  have hSs := hq.out.2.1
  have hE1 := Lib.hid hq.out.2.2.1
  have hS1 := Lib.hid hq.out.2.2.2.1
  have hQ := Lib.hid hq.out.2.2.2.2.2
  have hEi : Hid ((Tryz.prog.info? 44).map (·.size) = some EA.size) := Lib.hid (by rw [hEs]; exact infoEn)
  have hSi : Hid ((Tryz.prog.info? 34).map (·.size) = some SA.size) := Lib.hid (by rw [hSs]; exact infoS10)
  have hA : Hid (((w2.alloc (.cells z19 44)).alloc (.cells z10 34)).heap[w2.heap.size]? = some (.cells z19 44 (0, 0))) := Lib.hid ((((Below.refl _ (w2.alloc (.cells z19 44))).alloc (Nat.le_refl _) _).block w2.heap.size (by simp)).trans (heap_alloc_new w2 _))
  have hB : Hid (((w2.alloc (.cells z19 44)).alloc (.cells z10 34)).heap[w2.heap.size + 1]? = some (.cells z10 34 (0, 0))) := Lib.hid (by have := heap_alloc_new (w2.alloc (.cells z19 44)) (.cells z10 34); rwa [World.size_alloc] at this)
  have hC : Hid (Below w2.heap.size w2 ((w2.alloc (.cells z19 44)).alloc (.cells z10 34))) := Lib.hid (((Below.refl _ w2).alloc (Nat.le_refl _) _).alloc (by simp) _)
  clear hq hn' hR0 hL
  have hB' := Lib.hid ((setRow_other ((w2.alloc (.cells z19 44)).alloc (.cells z10 34)) w2.heap.size (w2.heap.size + 1) EA (by omega)).trans hB.out)
  have hz19 : z19.size = EA.size := hEs.symm
  have hz10 : z10.size = SA.size := hSs.symm
  go_upto_region 2 with (first
    | (refine wpList_store_row rfl 44 (.tmp 10) (.tmp 19) rfl w2.heap.size EA rfl rfl 44 z19 hA.out hEi.out hz19 hE1.out ?_)
    | (refine wpList_store_row rfl 34 (.tmp 11) (.tmp 20) rfl (w2.heap.size + 1) SA rfl rfl 34 z10 hB'.out hSi.out hz10 hS1.out ?_))
  have hA2 := (setRow_other (((w2.alloc (.cells z19 44)).alloc (.cells z10 34)).setRow w2.heap.size EA) (w2.heap.size + 1) w2.heap.size SA (by omega)).trans (setRow_heap (new := EA) hA.out)
  have hC2 := Lib.hid (below_row (below_row hC.out (g := w2.heap.size) (Nat.le_refl _) EA) (g := w2.heap.size + 1) (by omega) SA)
  have hl : w.heap.size + 1 < w2.heap.size := (Array.getElem?_eq_some_iff.1 hR2.out).1
  have hR3 := Lib.hid ((hC2.out.block _ hl).trans hR2.out)
  have hA3 := Lib.hid hA2
  simp only [z19, z10] at hA3 hC2 hR3
  clear hA2 hA hB hB' hC
  generalize (((w2.alloc (Obj.cells _ 44)).alloc (Obj.cells _ 34)).setRow w2.heap.size EA).setRow (w2.heap.size + 1) SA = W3 at *
  have hrg : W3.rangeAt w2.heap.size 0 EA.toList := range_block hA3.out
  have hEl : EA.toList.length = 19 := by rw [Array.length_toList]; exact hEs
  have hEt : EA.toList.toArray = EA := by simp
  go_wp2_with (first
    | (refine wpList_load_mid rfl 44 (.tmp 10) rfl w2.heap.size 0 rfl EA.toList _ hrg Tryz.underlying44 rfl (by rw [hEl]; exact infoEn) ?_; rw [hEt])
    | (refine wpList_store_row rfl 44 (.tmp 8) (.tmp 22) rfl (w.heap.size + 1) EA rfl rfl 44 z19 hR3.out hEi.out hz19 hE1.out ?_))
  have hR4 := setRow_heap (new := EA) hR3.out
  have hBf := Lib.hid ((hB2.out.trans (hC2.out.mono hB2.out.size)))
  have hfin := below_row (g := w.heap.size + 1) hBf.out (by omega) EA
  have hK : Hid (KeptOff (fun k => w.heap.size ≤ k ∧ k < ((w.alloc (.cells cm.toArray 42)).alloc (.cells z19 44)).heap.size) w2 (W3.setRow (w.heap.size + 1) EA)) := Lib.hid ((KeptOff.of_below hC2.out).trans ((KeptOff.row _ _ _).mono (fun k _ e => by simp; omega)))
  have hfin' := Lib.hid hfin
  have hR5 := Lib.hid hR4
  clear hfin hR4 hR3 hrg hA3 hC2
  generalize W3.setRow (w.heap.size + 1) EA = W4 at *
  exact bodyPost_ret (results_row_tmp (fn := Tryz.f20) rfl _ W4 _ 44 EA _ rfl hR5.out Tryz.underlying44 rfl hEi.out) rfl ⟨EA, e, rfl, Lib.hid ⟨hfin'.out, SA, (w.alloc (.cells cm.toArray 42)).alloc (.cells z19 44), w2, hb0.out, hQ.out, hK.out⟩⟩
end Go.Proofs.YtminfmjgmmkaoaaGreatDoor
namespace Go.Proofs.YtminfmjgmmkaoaaGreatDoor
open Go.ChangeShapes Go.WideShapes Go.ChangeAt Go.Shelf Go.RowKit Go.Lib Go.Sort Go.Deep
set_option linter.unusedVariables false
set_option maxRecDepth 4000
set_option linter.unusedSimpArgs false

set_option maxHeartbeats 8000000 in
theorem lgNew_bad {w : World} {v : Wv} {W : Wd} {every : Int} {eb : Addr} (hW : Wds w v W) (hE : ErrIs w eb) (hc : checkW W ≠ 0) :
    Calls Tryz.prog 7 #[v.val W, Sta.zero.val, .int .i64 every] w fun e w' => e = .returned (.tuple #[.pointer none, .int .i64 (checkW W)]) ∧ Below w.heap.size w w' := by
  have hck := fun (o1 o2 : Obj) => have hb := (((Below.refl _ w).alloc (Nat.le_refl _) o1).alloc (by simp) o2); vmCheck_any (hW.below hb) (hE.below hb)
  have hb0 := fun (o1 o2 : Obj) => Lib.hid (((Below.refl _ w).alloc (Nat.le_refl _) o1).alloc (by simp) o2)
  have hc' : (checkW W != 0) = true := by simpa using hc
  generalize checkW W = z at *
  clear hW hE hc
  simp only [Wv.val, Sta.val, Sta.cells, Sta.zero, List.map_cons, List.map_nil, List.cons_append, List.nil_append] at *
  go_enter Tryz.func7, Tryz.ntmps7
  go_wp2_with (go_at_call 8; refine (hck _ _).mono ?_; rintro e w1 ⟨rfl, hr⟩)
  go_ret2
  exact ⟨rfl, (hb0 _ _).out.trans (hr.below.mono (by simp; omega))⟩
/-- What New has made. -/
def NewQ (w : World) (W : Wd) (every : Int) (lb : Nat) (w' : World) : Prop :=
  w.heap.size ≤ lb ∧ Below w.heap.size w w' ∧ ∃ (v : Wv) (g : Nat), w.heap.size ≤ g ∧ LogOf w' lb v W every (.slice (some ⟨g, 0, none⟩) 1 1) [⟨Sta.zero, .slice none 0 0, []⟩] Sta.zero false
theorem frozen_of_cells {w : World} {b o : Nat} {cs : Array Value} {t : TypeId} (h : w.heap[b]? = some (.cells cs t (0, 0))) : w.frozen? ⟨b, o, none⟩ = false := by simp [World.frozen?, h]
theorem Inss.keptOff {S : Nat → Prop} {w w' : World} {a : Option Addr} {len cap : Nat} {os : List I} (h : Inss w a len cap os) (hk : KeptOff S w w') (hn : ∀ k, (Value.slice a len cap).ownBlock = some k → ¬ S k) : Inss w' a len cap os := by
  obtain ⟨h1, h2, h3, hf, h4⟩ := h
  refine ⟨h1, h2, h3, hf, h4.imp id ?_⟩
  rintro ⟨b, off, ha, hm⟩
  subst ha
  refine ⟨b, off, rfl, fun i hi => ?_⟩
  obtain ⟨hlt, h0⟩ := hm i hi
  have e : ∀ o, w'.cell? ⟨b, o, none⟩ = w.cell? ⟨b, o, none⟩ := fun o => by simp [World.cell?, hk.block b hlt (hn b rfl)]
  unfold InsAt
  simp only [e]
  exact ⟨Nat.lt_of_lt_of_le hlt hk.size, h0⟩
theorem Lks.keptOff {S : Nat → Prop} {w w' : World} {a : Option Addr} {len cap : Nat} {os : List Lk} (h : Lks w a len cap os) (hk : KeptOff S w w') (hn : ∀ k, (Value.slice a len cap).ownBlock = some k → ¬ S k) : Lks w' a len cap os := by
  obtain ⟨h1, h2, h3, h4⟩ := h
  refine ⟨h1, h2, h3, h4.imp id ?_⟩
  rintro ⟨b, off, ha, hm⟩
  subst ha
  refine ⟨b, off, rfl, fun i hi => ?_⟩
  obtain ⟨hlt, h0⟩ := hm i hi
  have e : ∀ o, w'.cell? ⟨b, o, none⟩ = w.cell? ⟨b, o, none⟩ := fun o => by simp [World.cell?, hk.block b hlt (hn b rfl)]
  unfold LkAt
  simp only [e]
  exact ⟨Nat.lt_of_lt_of_le hlt hk.size, h0⟩
theorem new_rel {w w2 w3 : World} {v : Wv} {W : Wd} {a2 a3 : Option Addr} {k2 k3 : Nat} {p0 p2 : Value} (hI : Inss w2 a2 v.pl k2 W.prog ∧ TagV w2 62 (.slice a2 v.pl k2)) (hIk : ∀ k, (Value.slice a2 v.pl k2).ownBlock = some k → w.heap.size < k) (hb3 : Below w2.heap.size w2 w3) (hL : Lks w3 a3 v.ll k3 W.links ∧ TagV w3 65 (.slice a3 v.ll k3)) (hLk : ∀ k, (Value.slice a3 v.ll k3).ownBlock = some k → w.heap.size < k)
    (hB : Below w.heap.size w w3) (hR : w3.heap[w.heap.size]? = some (.cells #[p0, .int .i64 W.self, p2, .int .u64 W.seed] 26 (0, 0))) (hS : w3.heap[w.heap.size + 1]? = some (.cells z10 34 (0, 0))) (hW : Wds w v W) :
    ∃ (pa : Option Addr) (pc : Nat) (la : Option Addr) (lc : Nat), Hid (((w3.setCell ⟨w.heap.size, 0, none⟩ (.slice a2 v.pl k2)).setCell ⟨w.heap.size, 2, none⟩ (.slice a3 v.ll k3)).heap[w.heap.size]? = some (.cells #[.slice pa v.pl pc, .int .i64 W.self, .slice la v.ll lc, .int .u64 W.seed] 26 (0, 0)) ∧
      ((w3.setCell ⟨w.heap.size, 0, none⟩ (.slice a2 v.pl k2)).setCell ⟨w.heap.size, 2, none⟩ (.slice a3 v.ll k3)).heap[w.heap.size + 1]? = some (.cells z10 34 (0, 0)) ∧
      Wds ((w3.setCell ⟨w.heap.size, 0, none⟩ (.slice a2 v.pl k2)).setCell ⟨w.heap.size, 2, none⟩ (.slice a3 v.ll k3)) ⟨pa, v.pl, pc, la, v.ll, lc⟩ W ∧ (TagV ((w3.setCell ⟨w.heap.size, 0, none⟩ (.slice a2 v.pl k2)).setCell ⟨w.heap.size, 2, none⟩ (.slice a3 v.ll k3)) 62 (.slice pa v.pl pc) ∧ TagV ((w3.setCell ⟨w.heap.size, 0, none⟩ (.slice a2 v.pl k2)).setCell ⟨w.heap.size, 2, none⟩ (.slice a3 v.ll k3)) 65 (.slice la v.ll lc)) ∧ Below w.heap.size w ((w3.setCell ⟨w.heap.size, 0, none⟩ (.slice a2 v.pl k2)).setCell ⟨w.heap.size, 2, none⟩ (.slice a3 v.ll k3))) := by
  have hk : KeptOff (fun k => k = w.heap.size) w3 ((w3.setCell ⟨w.heap.size, 0, none⟩ (.slice a2 v.pl k2)).setCell ⟨w.heap.size, 2, none⟩ (.slice a3 v.ll k3)) := (KeptOff.set w3 ⟨w.heap.size, 0, none⟩ _).trans (KeptOff.set _ ⟨w.heap.size, 2, none⟩ _)
  refine ⟨a2, k2, a3, k3, ⟨?_, ?_, ⟨?_, ?_, hW.2.2⟩, ⟨?_, ?_⟩, ?_⟩⟩
  · have h1 := Go.heap_setCell_same _ _ 2 _ _ (.slice a3 v.ll k3) (Go.heap_setCell_same w3 w.heap.size 0 _ _ (.slice a2 v.pl k2) hR)
    simpa using h1
  · exact (hk.block _ (Array.getElem?_eq_some_iff.1 hS).1 (by omega)).trans hS
  · exact (hI.1.below hb3).keptOff hk (fun k e => by have := hIk k e; omega)
  · exact hL.1.keptOff hk (fun k e => by have := hLk k e; omega)
  · exact (hI.2.below hb3).kept hk (fun k e => by have := hIk k e; omega)
  · exact hL.2.kept hk (fun k e => by have := hLk k e; omega)
  · exact hB.trans (hk.below (fun k _ e => by omega) hB.size)
/-- A log that has just been laid. -/
theorem new_log {w wc : World} {W : Wd} {v' : Wv} {every : Int} (hW : Wds wc v' W) (hT : TagV wc 62 (.slice v'.pa v'.pl v'.pc) ∧ TagV wc 65 (.slice v'.la v'.ll v'.lc)) (hB : Below w.heap.size w wc) (he : 1 ≤ every ∧ every ≤ 1024) :
    NewQ w W every (wc.heap.size + 1) ((wc.alloc (.cells #[.int .i64 0, .int .i64 0, .int .i64 0, .int .i64 0, .int .i64 0, .int .i64 0, .int .i64 0, .int .i64 0, .int .i64 0, .int .i64 0, .slice none 0 0] 68)).alloc
      (.cells #[.slice v'.pa v'.pl v'.pc, .int .i64 W.self, .slice v'.la v'.ll v'.lc, .int .u64 W.seed, .int .i64 every, .slice (some ⟨wc.heap.size, 0, none⟩) 1 1, .int .i64 0, .int .i64 0, .int .i64 0, .int .i64 0, .int .i64 0, .int .i64 0, .int .i64 0, .int .i64 0, .int .i64 0, .int .i64 0, .int .i64 0, .bool false] 71)) := by
  have hb := ((Below.refl _ wc).alloc (Nat.le_refl _) (.cells #[.int .i64 0, .int .i64 0, .int .i64 0, .int .i64 0, .int .i64 0, .int .i64 0, .int .i64 0, .int .i64 0, .int .i64 0, .int .i64 0, .slice none 0 0] 68)).alloc (by simp) (.cells #[.slice v'.pa v'.pl v'.pc, .int .i64 W.self, .slice v'.la v'.ll v'.lc, .int .u64 W.seed, .int .i64 every, .slice (some ⟨wc.heap.size, 0, none⟩) 1 1, .int .i64 0, .int .i64 0, .int .i64 0, .int .i64 0, .int .i64 0, .int .i64 0, .int .i64 0, .int .i64 0, .int .i64 0, .int .i64 0, .int .i64 0, .bool false] 71)
  have h2 := heap_alloc_new (wc.alloc (.cells #[.int .i64 0, .int .i64 0, .int .i64 0, .int .i64 0, .int .i64 0, .int .i64 0, .int .i64 0, .int .i64 0, .int .i64 0, .int .i64 0, .slice none 0 0] 68)) (.cells #[.slice v'.pa v'.pl v'.pc, .int .i64 W.self, .slice v'.la v'.ll v'.lc, .int .u64 W.seed, .int .i64 every, .slice (some ⟨wc.heap.size, 0, none⟩) 1 1, .int .i64 0, .int .i64 0, .int .i64 0, .int .i64 0, .int .i64 0, .int .i64 0, .int .i64 0, .int .i64 0, .int .i64 0, .int .i64 0, .int .i64 0, .bool false] 71)
  rw [World.size_alloc] at h2
  have h1 := (((Below.refl _ (wc.alloc (.cells #[.int .i64 0, .int .i64 0, .int .i64 0, .int .i64 0, .int .i64 0, .int .i64 0, .int .i64 0, .int .i64 0, .int .i64 0, .int .i64 0, .slice none 0 0] 68))).alloc (Nat.le_refl _) (.cells #[.slice v'.pa v'.pl v'.pc, .int .i64 W.self, .slice v'.la v'.ll v'.lc, .int .u64 W.seed, .int .i64 every, .slice (some ⟨wc.heap.size, 0, none⟩) 1 1, .int .i64 0, .int .i64 0, .int .i64 0, .int .i64 0, .int .i64 0, .int .i64 0, .int .i64 0, .int .i64 0, .int .i64 0, .int .i64 0, .int .i64 0, .bool false] 71)).block wc.heap.size (by simp)).trans (heap_alloc_new wc _)
  refine ⟨by have := hB.size; omega, hB.trans (hb.mono hB.size), v', wc.heap.size, hB.size, h2, ⟨hW.below hb, ⟨hT.1.below hb, hT.2.below hb⟩, .inr ⟨wc.heap.size, 0, 1, rfl, _, h1, by decide, by unfold maxLen; omega, by decide, rfl, fun j u hj => ?_⟩, fun s hs => ?_, fun s hs p hp => ?_⟩, he, by decide, by simp⟩
  · rw [Nat.zero_add, List.getElem?_toArray]
    exact hj
  · simp at hs; subst hs; exact RowAt.nil _ _ _
  · simp at hs; subst hs; simp at hp
set_option maxHeartbeats 16000000 in
theorem lgNew_ok {w : World} {v : Wv} {W : Wd} {every : Int} {eb : Addr} (hW : Wds w v W) (hE : ErrIs w eb) (hc : checkW W = 0) (hev : 1 ≤ every ∧ every ≤ 1024) :
    Calls Tryz.prog 7 #[v.val W, Sta.zero.val, .int .i64 every] w fun e w' => ∃ lb, e = .returned (.tuple #[.pointer (some ⟨lb, 0, none⟩), .int .i64 0]) ∧ Hid (NewQ w W every lb w') := by
  have mixed := mixed
  have hck := fun (o1 o2 : Obj) => have hb := (((Below.refl _ w).alloc (Nat.le_refl _) o1).alloc (by simp) o2); vmCheck_any (hW.below hb) (hE.below hb)
  rw [hc] at hck
  have hb0 := fun (o1 o2 : Obj) => Lib.hid (((Below.refl _ w).alloc (Nat.le_refl _) o1).alloc (by simp) o2)
  have hR0 := fun (o1 o2 : Obj) => Lib.hid ((((Below.refl _ (w.alloc o1)).alloc (Nat.le_refl _) o2).block w.heap.size (by simp)).trans (heap_alloc_new w o1))
  have hS0 := fun (o1 o2 : Obj) => Lib.hid (show ((w.alloc o1).alloc o2).heap[w.heap.size + 1]? = some o2 from by have := heap_alloc_new (w.alloc o1) o2; rwa [World.size_alloc] at this)
  have hic := fun w => lgIsCount_any 0 w
  rw [show lcountB 0 = true from rfl] at hic
  have hie := fun w => lgIsEvery_any every w
  rw [show leveryB every = true by simp [leveryB]; omega] at hie
  have hz := checkW_zero hc
  have hpl : v.pl ≤ 16384 := by have := checkN_short hz.1; have := hW.1.1; omega
  have hll : v.ll ≤ 16384 := by have := hz.2.2; have := hW.2.1.1; omega
  have hW' := Lib.hid hW
  clear hE hc
  simp only [Wv.val, Sta.val, Sta.cells, Sta.zero, List.map_cons, List.map_nil, List.cons_append, List.nil_append] at *
  go_enter Tryz.func7, Tryz.ntmps7
  go_wp2_with fail
  refine (hck _ _).mono ?_
  rintro e w1 ⟨rfl, hr⟩
  have hB1 := Lib.hid ((hb0 (.cells #[.slice v.pa v.pl v.pc, .int .i64 W.self, .slice v.la v.ll v.lc, .int .u64 W.seed] 26) (.cells z10 34)).out.trans (hr.below.mono (by simp; omega)))
  have hR1 := Lib.hid ((hr.below.block _ (by simp; omega)).trans (hR0 (.cells #[.slice v.pa v.pl v.pc, .int .i64 W.self, .slice v.la v.ll v.lc, .int .u64 W.seed] 26) (.cells z10 34)).out)
  have hS1 := Lib.hid ((hr.below.block _ (by simp)).trans (hS0 (.cells #[.slice v.pa v.pl v.pc, .int .i64 W.self, .slice v.la v.ll v.lc, .int .u64 W.seed] 26) (.cells z10 34)).out)
  clear hck hr hb0 hR0 hS0
  obtain ⟨s0, s1, s2, s3, s4, s5, s6, s7, s8, s9⟩ := row10 hS1.out
  go_upto_region 6 with (first
    | (go_at_call 22; refine (hic _).mono ?_; rintro e w' ⟨rfl, rfl⟩)
    | (go_at_call 23; refine (hie _).mono ?_; rintro e w' ⟨rfl, rfl⟩))
  clear s0 s1 s2 s3 s4 s5 s6 s7 s8 s9 hic hie
  go_cut [] from 29 to 36 (fun wx => ∃ (pa : Option Addr) (pc : Nat) (la : Option Addr) (lc : Nat), Hid (wx.heap[w.heap.size]? = some (.cells #[.slice pa v.pl pc, .int .i64 W.self, .slice la v.ll lc, .int .u64 W.seed] 26 (0, 0)) ∧ wx.heap[w.heap.size + 1]? = some (.cells z10 34 (0, 0)) ∧ Wds wx ⟨pa, v.pl, pc, la, v.ll, lc⟩ W ∧ (TagV wx 62 (.slice pa v.pl pc) ∧ TagV wx 65 (.slice la v.ll lc)) ∧ Below w.heap.size w wx))
  case first =>
    have hB1d : Below w1.heap.size w1 w1.drew := (Below.refl _ w1).drew
    have hlt0 : w.heap.size < w1.heap.size := (Array.getElem?_eq_some_iff.1 hR1.out).1
    have c0 : w1.drew.cell? ⟨w.heap.size, 0, none⟩ = some (.slice v.pa v.pl v.pc) := row_cell (show w1.drew.heap[w.heap.size]? = _ from hR1.out) 0 rfl
    have c2 : w1.drew.cell? ⟨w.heap.size, 2, none⟩ = some (.slice v.la v.ll v.lc) := row_cell (show w1.drew.heap[w.heap.size]? = _ from hR1.out) 2 rfl
    have hBw := hB1.out.trans (hB1d.mono hB1.out.size)
    have hcI : ∀ w', Below w.heap.size w w' → Calls Tryz.prog 24 #[.slice v.pa v.pl v.pc] w' fun e w2 => ∃ a' c', e = .returned (.slice a' v.pl c') ∧ Hid (CloneQ w' w2 (.slice a' v.pl c') fun w2 => Inss w2 a' v.pl c' W.prog ∧ TagV w2 62 (.slice a' v.pl c')) := fun w' hb => cloneIs_any (hW'.out.1.below hb) hpl
    have hcL : ∀ w', Below w.heap.size w w' → Calls Tryz.prog 25 #[.slice v.la v.ll v.lc] w' fun e w2 => ∃ a' c', e = .returned (.slice a' v.ll c') ∧ Hid (CloneQ w' w2 (.slice a' v.ll c') fun w2 => Lks w2 a' v.ll c' W.links ∧ TagV w2 65 (.slice a' v.ll c')) := fun w' hb => cloneLs_any (hW'.out.2.1.below hb) hll
    refine wp_region_any (by kernel_rfl) ?_
    change wpAny _ _ _ _ _ _ _ (World.drew _)
    refine wpAny_take (i := 0) (oi := { dst := some 29, op := Op.fieldAddr 26 (Operand.tmp 3) 0, type := 0, pos := "log.go:37", after := #[], guard := none }) (v := ?vv0_1) rfl (by kernel_rfl) (by kernel_rfl) (by kernel_rfl) (fun _ _ _ h => h) (Or.inl ⟨by rfl, ?hy0_1⟩) ?rest0_1
    case hy0_1 =>
      intro w
      go_simp
      try with_reducible rfl
    try simp only [Act.put, List.setIfInBounds_toArray, List.set_cons_zero, List.set_cons_succ]
    refine wpAny_take (i := 3) (oi := { dst := some 32, op := Op.fieldAddr 26 (Operand.tmp 3) 2, type := 0, pos := "log.go:37", after := #[], guard := none }) (v := ?vv3_2) rfl (by kernel_rfl) (by kernel_rfl) (by kernel_rfl) (fun _ _ _ h => h) (Or.inl ⟨by rfl, ?hy3_2⟩) ?rest3_2
    case hy3_2 =>
      intro w
      go_simp
      try with_reducible rfl
    try simp only [Act.put, List.setIfInBounds_toArray, List.set_cons_zero, List.set_cons_succ]
    refine wpAny_ready (rs := [1, 4]) (by kernel_rfl) (by simp) ?_
    refine AllReady.cons (o := { dst := some 30, op := Op.load 22 (Operand.tmp 29), type := 22, pos := "log.go:37", after := #[{ on := 0, ground := Ground.data }], guard := none }) rfl (fun K hK => ?_) ?_
    · go_simp
      refine hK _ _ ?_
      clear hK K
      try simp only [Act.put, List.setIfInBounds_toArray, List.set_cons_zero, List.set_cons_succ]
      refine wpAny_ready (rs := [2, 4]) (by kernel_rfl) (by simp) ?_
      refine AllReady.cons (o := { dst := some 31, op := Op.call { callee := Callee.value (Operand.func 24), args := #[Operand.tmp 30], argTypes := #[22] }, type := 22, pos := "log.go:37", after := #[{ on := 1, ground := Ground.data }], guard := none }) rfl (fun K hK => ?_) ?_
      · go_simp
        refine (hcI _ hBw).mono ?_
        rintro e w2 ⟨a2, k2, rfl, hq2⟩
        have hBw2 := hBw.trans (hq2.out.2.1.mono hBw.size)
        refine hK _ _ ?_
        clear hK K
        try simp only [Act.put, List.setIfInBounds_toArray, List.set_cons_zero, List.set_cons_succ]
        have c2b : w2.cell? ⟨w.heap.size, 2, none⟩ = some (.slice v.la v.ll v.lc) := (hq2.out.2.1.cell (p := ⟨w.heap.size, 2, none⟩) (Nat.lt_of_lt_of_le hlt0 hB1d.size)).trans c2
        refine wpAny_ready (rs := [4]) (by kernel_rfl) (by simp) ?_
        refine AllReady.cons (o := { dst := some 33, op := Op.load 23 (Operand.tmp 32), type := 23, pos := "log.go:37", after := #[{ on := 3, ground := Ground.data }], guard := none }) rfl (fun K hK => ?_) AllReady.nil
        go_simp
        refine hK _ _ ?_
        clear hK K
        try simp only [Act.put, List.setIfInBounds_toArray, List.set_cons_zero, List.set_cons_succ]
        refine wpAny_take (i := 6) (oi := { dst := some 35, op := Op.fieldAddr 26 (Operand.tmp 3) 0, type := 0, pos := "log.go:37", after := #[{ on := 0, ground := Ground.phase }, { on := 1, ground := Ground.phase }, { on := 2, ground := Ground.phase }, { on := 3, ground := Ground.phase }, { on := 4, ground := Ground.phase }, { on := 5, ground := Ground.textOnly Departure.lateStoresUnsure }], guard := none }) (v := ?vv6_3) rfl (by kernel_rfl) (by kernel_rfl) (by kernel_rfl) (fun _ _ _ h => h) (Or.inl ⟨by rfl, ?hy6_3⟩) ?rest6_3
        case hy6_3 =>
          intro w
          go_simp
          try with_reducible rfl
        try simp only [Act.put, List.setIfInBounds_toArray, List.set_cons_zero, List.set_cons_succ]
        refine wpAny_ready (rs := [5]) (by kernel_rfl) (by simp) ?_
        refine AllReady.cons (o := { dst := some 34, op := Op.call { callee := Callee.value (Operand.func 25), args := #[Operand.tmp 33], argTypes := #[23] }, type := 23, pos := "log.go:37", after := #[{ on := 4, ground := Ground.data }, { on := 2, ground := Ground.chain }], guard := none }) rfl (fun K hK => ?_) AllReady.nil
        go_simp
        refine (hcL _ hBw2).mono ?_
        rintro e w3 ⟨a3, k3, rfl, hq3⟩
        have hBw3 := hBw2.trans (hq3.out.2.1.mono hBw2.size)
        refine hK _ _ ?_
        clear hK K
        try simp only [Act.put, List.setIfInBounds_toArray, List.set_cons_zero, List.set_cons_succ]
        have hRb : w3.heap[w.heap.size]? = some (.cells #[.slice v.pa v.pl v.pc, .int .i64 W.self, .slice v.la v.ll v.lc, .int .u64 W.seed] 26 (0, 0)) := (hq3.out.2.1.block _ (Nat.lt_of_lt_of_le hlt0 (Nat.le_trans hB1d.size hq2.out.2.1.size))).trans ((hq2.out.2.1.block _ (Nat.lt_of_lt_of_le hlt0 hB1d.size)).trans (show w1.drew.heap[w.heap.size]? = _ from hR1.out))
        have hSb : w3.heap[w.heap.size + 1]? = some (.cells z10 34 (0, 0)) := (hq3.out.2.1.block _ (Nat.lt_of_lt_of_le (Array.getElem?_eq_some_iff.1 hS1.out).1 (Nat.le_trans hB1d.size hq2.out.2.1.size))).trans ((hq2.out.2.1.block _ (Nat.lt_of_lt_of_le (Array.getElem?_eq_some_iff.1 hS1.out).1 hB1d.size)).trans (show w1.drew.heap[w.heap.size + 1]? = _ from hS1.out))
        have hfz := fun j => (frozen_of_cells (o := j) hRb)
        have hcx := row4 hRb
        obtain ⟨x0, x1, x2, x3⟩ := hcx
        refine wpAny_ready (rs := [7]) (by kernel_rfl) (by simp) ?_
        refine AllReady.cons (o := { dst := none, op := Op.store 22 (Operand.tmp 35) (Operand.tmp 31), type := 0, pos := "log.go:37", after := #[{ on := 6, ground := Ground.data }, { on := 2, ground := Ground.data }, { on := 5, ground := Ground.chain }, { on := 0, ground := Ground.phase }, { on := 1, ground := Ground.phase }, { on := 2, ground := Ground.phase }, { on := 3, ground := Ground.phase }, { on := 4, ground := Ground.phase }, { on := 5, ground := Ground.textOnly Departure.lateStoresUnsure }], guard := none }) rfl (fun K hK => ?_) AllReady.nil
        go_simp
        refine hK _ _ ?_
        clear hK K
        try simp only [Act.put, List.setIfInBounds_toArray, List.set_cons_zero, List.set_cons_succ]
        refine wpAny_take (i := 8) (oi := { dst := some 36, op := Op.fieldAddr 26 (Operand.tmp 3) 2, type := 0, pos := "log.go:37", after := #[{ on := 0, ground := Ground.phase }, { on := 1, ground := Ground.phase }, { on := 2, ground := Ground.phase }, { on := 3, ground := Ground.phase }, { on := 4, ground := Ground.phase }, { on := 5, ground := Ground.phase }, { on := 6, ground := Ground.phase }, { on := 7, ground := Ground.phase }], guard := none }) (v := ?vv8_4) rfl (by kernel_rfl) (by kernel_rfl) (by kernel_rfl) (fun _ _ _ h => h) (Or.inl ⟨by rfl, ?hy8_4⟩) ?rest8_4
        case hy8_4 =>
          intro w
          go_simp
          try with_reducible rfl
        try simp only [Act.put, List.setIfInBounds_toArray, List.set_cons_zero, List.set_cons_succ]
        refine wpAny_ready (rs := [9]) (by kernel_rfl) (by simp) ?_
        refine AllReady.cons (o := { dst := none, op := Op.store 23 (Operand.tmp 36) (Operand.tmp 34), type := 0, pos := "log.go:37", after := #[{ on := 8, ground := Ground.data }, { on := 5, ground := Ground.data }, { on := 7, ground := Ground.chain }, { on := 0, ground := Ground.phase }, { on := 1, ground := Ground.phase }, { on := 2, ground := Ground.phase }, { on := 3, ground := Ground.phase }, { on := 4, ground := Ground.phase }, { on := 5, ground := Ground.phase }, { on := 6, ground := Ground.phase }, { on := 7, ground := Ground.phase }], guard := none }) rfl (fun K hK => ?_) AllReady.nil
        go_simp
        refine hK _ _ ?_
        clear hK K
        try simp only [Act.put, List.setIfInBounds_toArray, List.set_cons_zero, List.set_cons_succ]
        refine wpAny_done (by kernel_rfl) ?_ _
        go_wp2_with fail
        go_meet
        case rel => exact new_rel hq2.out.1 (fun k e => Nat.lt_of_lt_of_le hlt0 (Nat.le_trans hB1d.size (hq2.out.2.2 k e))) hq3.out.2.1 hq3.out.1 (fun k e => Nat.lt_of_lt_of_le hlt0 (Nat.le_trans hB1d.size (Nat.le_trans hq2.out.2.1.size (hq3.out.2.2 k e)))) hBw3 hRb hSb hW'.out
      refine AllReady.cons (o := { dst := some 33, op := Op.load 23 (Operand.tmp 32), type := 23, pos := "log.go:37", after := #[{ on := 3, ground := Ground.data }], guard := none }) rfl (fun K hK => ?_) AllReady.nil
      go_simp
      refine hK _ _ ?_
      clear hK K
      try simp only [Act.put, List.setIfInBounds_toArray, List.set_cons_zero, List.set_cons_succ]
      refine wpAny_ready (rs := [2]) (by kernel_rfl) (by simp) ?_
      refine AllReady.cons (o := { dst := some 31, op := Op.call { callee := Callee.value (Operand.func 24), args := #[Operand.tmp 30], argTypes := #[22] }, type := 22, pos := "log.go:37", after := #[{ on := 1, ground := Ground.data }], guard := none }) rfl (fun K hK => ?_) AllReady.nil
      go_simp
      refine (hcI _ hBw).mono ?_
      rintro e w2 ⟨a2, k2, rfl, hq2⟩
      have hBw2 := hBw.trans (hq2.out.2.1.mono hBw.size)
      refine hK _ _ ?_
      clear hK K
      try simp only [Act.put, List.setIfInBounds_toArray, List.set_cons_zero, List.set_cons_succ]
      refine wpAny_take (i := 6) (oi := { dst := some 35, op := Op.fieldAddr 26 (Operand.tmp 3) 0, type := 0, pos := "log.go:37", after := #[{ on := 0, ground := Ground.phase }, { on := 1, ground := Ground.phase }, { on := 2, ground := Ground.phase }, { on := 3, ground := Ground.phase }, { on := 4, ground := Ground.phase }, { on := 5, ground := Ground.textOnly Departure.lateStoresUnsure }], guard := none }) (v := ?vv6_5) rfl (by kernel_rfl) (by kernel_rfl) (by kernel_rfl) (fun _ _ _ h => h) (Or.inl ⟨by rfl, ?hy6_5⟩) ?rest6_5
      case hy6_5 =>
        intro w
        go_simp
        try with_reducible rfl
      try simp only [Act.put, List.setIfInBounds_toArray, List.set_cons_zero, List.set_cons_succ]
      refine wpAny_ready (rs := [5]) (by kernel_rfl) (by simp) ?_
      refine AllReady.cons (o := { dst := some 34, op := Op.call { callee := Callee.value (Operand.func 25), args := #[Operand.tmp 33], argTypes := #[23] }, type := 23, pos := "log.go:37", after := #[{ on := 4, ground := Ground.data }, { on := 2, ground := Ground.chain }], guard := none }) rfl (fun K hK => ?_) AllReady.nil
      go_simp
      refine (hcL _ hBw2).mono ?_
      rintro e w3 ⟨a3, k3, rfl, hq3⟩
      have hBw3 := hBw2.trans (hq3.out.2.1.mono hBw2.size)
      refine hK _ _ ?_
      clear hK K
      try simp only [Act.put, List.setIfInBounds_toArray, List.set_cons_zero, List.set_cons_succ]
      have hRb : w3.heap[w.heap.size]? = some (.cells #[.slice v.pa v.pl v.pc, .int .i64 W.self, .slice v.la v.ll v.lc, .int .u64 W.seed] 26 (0, 0)) := (hq3.out.2.1.block _ (Nat.lt_of_lt_of_le hlt0 (Nat.le_trans hB1d.size hq2.out.2.1.size))).trans ((hq2.out.2.1.block _ (Nat.lt_of_lt_of_le hlt0 hB1d.size)).trans (show w1.drew.heap[w.heap.size]? = _ from hR1.out))
      have hSb : w3.heap[w.heap.size + 1]? = some (.cells z10 34 (0, 0)) := (hq3.out.2.1.block _ (Nat.lt_of_lt_of_le (Array.getElem?_eq_some_iff.1 hS1.out).1 (Nat.le_trans hB1d.size hq2.out.2.1.size))).trans ((hq2.out.2.1.block _ (Nat.lt_of_lt_of_le (Array.getElem?_eq_some_iff.1 hS1.out).1 hB1d.size)).trans (show w1.drew.heap[w.heap.size + 1]? = _ from hS1.out))
      have hfz := fun j => (frozen_of_cells (o := j) hRb)
      have hcx := row4 hRb
      obtain ⟨x0, x1, x2, x3⟩ := hcx
      refine wpAny_ready (rs := [7]) (by kernel_rfl) (by simp) ?_
      refine AllReady.cons (o := { dst := none, op := Op.store 22 (Operand.tmp 35) (Operand.tmp 31), type := 0, pos := "log.go:37", after := #[{ on := 6, ground := Ground.data }, { on := 2, ground := Ground.data }, { on := 5, ground := Ground.chain }, { on := 0, ground := Ground.phase }, { on := 1, ground := Ground.phase }, { on := 2, ground := Ground.phase }, { on := 3, ground := Ground.phase }, { on := 4, ground := Ground.phase }, { on := 5, ground := Ground.textOnly Departure.lateStoresUnsure }], guard := none }) rfl (fun K hK => ?_) AllReady.nil
      go_simp
      refine hK _ _ ?_
      clear hK K
      try simp only [Act.put, List.setIfInBounds_toArray, List.set_cons_zero, List.set_cons_succ]
      refine wpAny_take (i := 8) (oi := { dst := some 36, op := Op.fieldAddr 26 (Operand.tmp 3) 2, type := 0, pos := "log.go:37", after := #[{ on := 0, ground := Ground.phase }, { on := 1, ground := Ground.phase }, { on := 2, ground := Ground.phase }, { on := 3, ground := Ground.phase }, { on := 4, ground := Ground.phase }, { on := 5, ground := Ground.phase }, { on := 6, ground := Ground.phase }, { on := 7, ground := Ground.phase }], guard := none }) (v := ?vv8_6) rfl (by kernel_rfl) (by kernel_rfl) (by kernel_rfl) (fun _ _ _ h => h) (Or.inl ⟨by rfl, ?hy8_6⟩) ?rest8_6
      case hy8_6 =>
        intro w
        go_simp
        try with_reducible rfl
      try simp only [Act.put, List.setIfInBounds_toArray, List.set_cons_zero, List.set_cons_succ]
      refine wpAny_ready (rs := [9]) (by kernel_rfl) (by simp) ?_
      refine AllReady.cons (o := { dst := none, op := Op.store 23 (Operand.tmp 36) (Operand.tmp 34), type := 0, pos := "log.go:37", after := #[{ on := 8, ground := Ground.data }, { on := 5, ground := Ground.data }, { on := 7, ground := Ground.chain }, { on := 0, ground := Ground.phase }, { on := 1, ground := Ground.phase }, { on := 2, ground := Ground.phase }, { on := 3, ground := Ground.phase }, { on := 4, ground := Ground.phase }, { on := 5, ground := Ground.phase }, { on := 6, ground := Ground.phase }, { on := 7, ground := Ground.phase }], guard := none }) rfl (fun K hK => ?_) AllReady.nil
      go_simp
      refine hK _ _ ?_
      clear hK K
      try simp only [Act.put, List.setIfInBounds_toArray, List.set_cons_zero, List.set_cons_succ]
      refine wpAny_done (by kernel_rfl) ?_ _
      go_wp2_with fail
      go_meet
      case rel => exact new_rel hq2.out.1 (fun k e => Nat.lt_of_lt_of_le hlt0 (Nat.le_trans hB1d.size (hq2.out.2.2 k e))) hq3.out.2.1 hq3.out.1 (fun k e => Nat.lt_of_lt_of_le hlt0 (Nat.le_trans hB1d.size (Nat.le_trans hq2.out.2.1.size (hq3.out.2.2 k e)))) hBw3 hRb hSb hW'.out
    refine AllReady.cons (o := { dst := some 33, op := Op.load 23 (Operand.tmp 32), type := 23, pos := "log.go:37", after := #[{ on := 3, ground := Ground.data }], guard := none }) rfl (fun K hK => ?_) ?_
    · go_simp
      refine hK _ _ ?_
      clear hK K
      try simp only [Act.put, List.setIfInBounds_toArray, List.set_cons_zero, List.set_cons_succ]
      refine wpAny_ready (rs := [1]) (by kernel_rfl) (by simp) ?_
      refine AllReady.cons (o := { dst := some 30, op := Op.load 22 (Operand.tmp 29), type := 22, pos := "log.go:37", after := #[{ on := 0, ground := Ground.data }], guard := none }) rfl (fun K hK => ?_) AllReady.nil
      go_simp
      refine hK _ _ ?_
      clear hK K
      try simp only [Act.put, List.setIfInBounds_toArray, List.set_cons_zero, List.set_cons_succ]
      refine wpAny_ready (rs := [2]) (by kernel_rfl) (by simp) ?_
      refine AllReady.cons (o := { dst := some 31, op := Op.call { callee := Callee.value (Operand.func 24), args := #[Operand.tmp 30], argTypes := #[22] }, type := 22, pos := "log.go:37", after := #[{ on := 1, ground := Ground.data }], guard := none }) rfl (fun K hK => ?_) AllReady.nil
      go_simp
      refine (hcI _ hBw).mono ?_
      rintro e w2 ⟨a2, k2, rfl, hq2⟩
      have hBw2 := hBw.trans (hq2.out.2.1.mono hBw.size)
      refine hK _ _ ?_
      clear hK K
      try simp only [Act.put, List.setIfInBounds_toArray, List.set_cons_zero, List.set_cons_succ]
      refine wpAny_take (i := 6) (oi := { dst := some 35, op := Op.fieldAddr 26 (Operand.tmp 3) 0, type := 0, pos := "log.go:37", after := #[{ on := 0, ground := Ground.phase }, { on := 1, ground := Ground.phase }, { on := 2, ground := Ground.phase }, { on := 3, ground := Ground.phase }, { on := 4, ground := Ground.phase }, { on := 5, ground := Ground.textOnly Departure.lateStoresUnsure }], guard := none }) (v := ?vv6_7) rfl (by kernel_rfl) (by kernel_rfl) (by kernel_rfl) (fun _ _ _ h => h) (Or.inl ⟨by rfl, ?hy6_7⟩) ?rest6_7
      case hy6_7 =>
        intro w
        go_simp
        try with_reducible rfl
      try simp only [Act.put, List.setIfInBounds_toArray, List.set_cons_zero, List.set_cons_succ]
      refine wpAny_ready (rs := [5]) (by kernel_rfl) (by simp) ?_
      refine AllReady.cons (o := { dst := some 34, op := Op.call { callee := Callee.value (Operand.func 25), args := #[Operand.tmp 33], argTypes := #[23] }, type := 23, pos := "log.go:37", after := #[{ on := 4, ground := Ground.data }, { on := 2, ground := Ground.chain }], guard := none }) rfl (fun K hK => ?_) AllReady.nil
      go_simp
      refine (hcL _ hBw2).mono ?_
      rintro e w3 ⟨a3, k3, rfl, hq3⟩
      have hBw3 := hBw2.trans (hq3.out.2.1.mono hBw2.size)
      refine hK _ _ ?_
      clear hK K
      try simp only [Act.put, List.setIfInBounds_toArray, List.set_cons_zero, List.set_cons_succ]
      have hRb : w3.heap[w.heap.size]? = some (.cells #[.slice v.pa v.pl v.pc, .int .i64 W.self, .slice v.la v.ll v.lc, .int .u64 W.seed] 26 (0, 0)) := (hq3.out.2.1.block _ (Nat.lt_of_lt_of_le hlt0 (Nat.le_trans hB1d.size hq2.out.2.1.size))).trans ((hq2.out.2.1.block _ (Nat.lt_of_lt_of_le hlt0 hB1d.size)).trans (show w1.drew.heap[w.heap.size]? = _ from hR1.out))
      have hSb : w3.heap[w.heap.size + 1]? = some (.cells z10 34 (0, 0)) := (hq3.out.2.1.block _ (Nat.lt_of_lt_of_le (Array.getElem?_eq_some_iff.1 hS1.out).1 (Nat.le_trans hB1d.size hq2.out.2.1.size))).trans ((hq2.out.2.1.block _ (Nat.lt_of_lt_of_le (Array.getElem?_eq_some_iff.1 hS1.out).1 hB1d.size)).trans (show w1.drew.heap[w.heap.size + 1]? = _ from hS1.out))
      have hfz := fun j => (frozen_of_cells (o := j) hRb)
      have hcx := row4 hRb
      obtain ⟨x0, x1, x2, x3⟩ := hcx
      refine wpAny_ready (rs := [7]) (by kernel_rfl) (by simp) ?_
      refine AllReady.cons (o := { dst := none, op := Op.store 22 (Operand.tmp 35) (Operand.tmp 31), type := 0, pos := "log.go:37", after := #[{ on := 6, ground := Ground.data }, { on := 2, ground := Ground.data }, { on := 5, ground := Ground.chain }, { on := 0, ground := Ground.phase }, { on := 1, ground := Ground.phase }, { on := 2, ground := Ground.phase }, { on := 3, ground := Ground.phase }, { on := 4, ground := Ground.phase }, { on := 5, ground := Ground.textOnly Departure.lateStoresUnsure }], guard := none }) rfl (fun K hK => ?_) AllReady.nil
      go_simp
      refine hK _ _ ?_
      clear hK K
      try simp only [Act.put, List.setIfInBounds_toArray, List.set_cons_zero, List.set_cons_succ]
      refine wpAny_take (i := 8) (oi := { dst := some 36, op := Op.fieldAddr 26 (Operand.tmp 3) 2, type := 0, pos := "log.go:37", after := #[{ on := 0, ground := Ground.phase }, { on := 1, ground := Ground.phase }, { on := 2, ground := Ground.phase }, { on := 3, ground := Ground.phase }, { on := 4, ground := Ground.phase }, { on := 5, ground := Ground.phase }, { on := 6, ground := Ground.phase }, { on := 7, ground := Ground.phase }], guard := none }) (v := ?vv8_8) rfl (by kernel_rfl) (by kernel_rfl) (by kernel_rfl) (fun _ _ _ h => h) (Or.inl ⟨by rfl, ?hy8_8⟩) ?rest8_8
      case hy8_8 =>
        intro w
        go_simp
        try with_reducible rfl
      try simp only [Act.put, List.setIfInBounds_toArray, List.set_cons_zero, List.set_cons_succ]
      refine wpAny_ready (rs := [9]) (by kernel_rfl) (by simp) ?_
      refine AllReady.cons (o := { dst := none, op := Op.store 23 (Operand.tmp 36) (Operand.tmp 34), type := 0, pos := "log.go:37", after := #[{ on := 8, ground := Ground.data }, { on := 5, ground := Ground.data }, { on := 7, ground := Ground.chain }, { on := 0, ground := Ground.phase }, { on := 1, ground := Ground.phase }, { on := 2, ground := Ground.phase }, { on := 3, ground := Ground.phase }, { on := 4, ground := Ground.phase }, { on := 5, ground := Ground.phase }, { on := 6, ground := Ground.phase }, { on := 7, ground := Ground.phase }], guard := none }) rfl (fun K hK => ?_) AllReady.nil
      go_simp
      refine hK _ _ ?_
      clear hK K
      try simp only [Act.put, List.setIfInBounds_toArray, List.set_cons_zero, List.set_cons_succ]
      refine wpAny_done (by kernel_rfl) ?_ _
      go_wp2_with fail
      go_meet
      case rel => exact new_rel hq2.out.1 (fun k e => Nat.lt_of_lt_of_le hlt0 (Nat.le_trans hB1d.size (hq2.out.2.2 k e))) hq3.out.2.1 hq3.out.1 (fun k e => Nat.lt_of_lt_of_le hlt0 (Nat.le_trans hB1d.size (Nat.le_trans hq2.out.2.1.size (hq3.out.2.2 k e)))) hBw3 hRb hSb hW'.out
    exact AllReady.nil
  case rest =>
    obtain ⟨pa, pc, la, lc, hc⟩ := hcut
    have hcc := Lib.hid hc.out
    obtain ⟨b0, b1, b2, b3⟩ := row4 hc.out.1
    obtain ⟨s0, s1, s2, s3, s4, s5, s6, s7, s8, s9⟩ := row10 hc.out.2.1
    have hev' := Lib.hid hev
    have hsz : w.heap.size + 1 < wc.heap.size := (Array.getElem?_eq_some_iff.1 hc.out.2.1).1
    clear hc hR1 hS1 hB1 hW' hz hev hW
    go_wp2
    go_ret2
    exact ⟨_, rfl, new_log (v' := ⟨pa, v.pl, pc, la, v.ll, lc⟩) hcc.out.2.2.1 hcc.out.2.2.2.1 hcc.out.2.2.2.2 hev'.out⟩
end Go.Proofs.YtminfmjgmmkaoaaGreatDoor
