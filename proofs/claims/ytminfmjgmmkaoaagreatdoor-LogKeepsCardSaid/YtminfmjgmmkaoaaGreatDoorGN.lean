/-
  A log's Try.
  A new log of a process that stands at the beginning.
  A log in memory, step by step: a cell of its block, one stretch more, one step more.
-/
import Derived.Test.YtminfmjgmmkaoaaGreatDoorGK
namespace Go.Proofs.YtminfmjgmmkaoaaGreatDoor
open Go.ChangeShapes Go.WideShapes Go.ChangeAt Go.Shelf Go.RowKit Go.Lib Go.Sort Go.Deep
set_option linter.unusedVariables false
set_option maxRecDepth 4000
set_option linter.unusedSimpArgs false

end Go.Proofs.YtminfmjgmmkaoaaGreatDoor
namespace Go.Proofs.YtminfmjgmmkaoaaGreatDoor
open Go.ChangeShapes Go.WideShapes Go.ChangeAt Go.Shelf Go.RowKit Go.Lib Go.Sort Go.Deep
set_option linter.unusedVariables false
set_option maxRecDepth 4000
set_option linter.unusedSimpArgs false

set_option maxHeartbeats 8000000 in
theorem lgNew_bad {w : World} {v : Wv} {W : Wd} {every : Int} {eb : Addr} (hW : Wds w v W) (hE : ErrIs w eb) (hc : checkW W ≠ 0) :
    Calls Tryz.prog 7 #[v.val W, Sta.zero.val, .int .i64 every] w fun e w' => e = .returned (.tuple #[.pointer none, .int .i64 (checkW W)]) ∧ Below w.heap.size w w' := by
  have hck := fun (o1 o2 : Obj) => have hb := (((Below.refl _ w).alloc (Nat.le_refl _) o1).alloc (by simp) o2); vmCheck_any (hW.below hb) (hE.below hb)
  have hb0 := fun (o1 o2 : Obj) => Lib.hid (((Below.refl _ w).alloc (Nat.le_refl _) o1).alloc (by simp) o2)
  have hc' : (checkW W != 0) = true := by simpa using hc
  generalize checkW W = z at *
  clear hW hE hc
  simp only [Wv.val, Sta.val, Sta.cells, Sta.zero, List.map_cons, List.map_nil, List.cons_append, List.nil_append] at *
  go_enter Tryz.func7, Tryz.ntmps7
  go_wp2_with (go_at_call 8; refine (hck _ _).mono ?_; rintro e w1 ⟨rfl, hr⟩)
  go_ret2
  exact ⟨rfl, (hb0 _ _).out.trans (hr.below.mono (by simp; omega))⟩
/-- What New has made. -/
def NewQ (w : World) (W : Wd) (every : Int) (lb : Nat) (w' : World) : Prop :=
  w.heap.size ≤ lb ∧ Below w.heap.size w w' ∧ ∃ (v : Wv) (g : Nat), w.heap.size ≤ g ∧ LogOf w' lb v W every (.slice (some ⟨g, 0, none⟩) 1 1) [⟨Sta.zero, .slice none 0 0, []⟩] Sta.zero false
theorem frozen_of_cells {w : World} {b o : Nat} {cs : Array Value} {t : TypeId} (h : w.heap[b]? = some (.cells cs t (0, 0))) : w.frozen? ⟨b, o, none⟩ = false := by simp [World.frozen?, h]
theorem Inss.keptOff {S : Nat → Prop} {w w' : World} {a : Option Addr} {len cap : Nat} {os : List I} (h : Inss w a len cap os) (hk : KeptOff S w w') (hn : ∀ k, (Value.slice a len cap).ownBlock = some k → ¬ S k) : Inss w' a len cap os := by
  obtain ⟨h1, h2, h3, hf, h4⟩ := h
  refine ⟨h1, h2, h3, hf, h4.imp id ?_⟩
  rintro ⟨b, off, ha, hm⟩
  subst ha
  refine ⟨b, off, rfl, fun i hi => ?_⟩
  obtain ⟨hlt, h0⟩ := hm i hi
  have e : ∀ o, w'.cell? ⟨b, o, none⟩ = w.cell? ⟨b, o, none⟩ := fun o => by simp [World.cell?, hk.block b hlt (hn b rfl)]
  unfold InsAt
  simp only [e]
  exact ⟨Nat.lt_of_lt_of_le hlt hk.size, h0⟩
theorem Lks.keptOff {S : Nat → Prop} {w w' : World} {a : Option Addr} {len cap : Nat} {os : List Lk} (h : Lks w a len cap os) (hk : KeptOff S w w') (hn : ∀ k, (Value.slice a len cap).ownBlock = some k → ¬ S k) : Lks w' a len cap os := by
  obtain ⟨h1, h2, h3, h4⟩ := h
  refine ⟨h1, h2, h3, h4.imp id ?_⟩
  rintro ⟨b, off, ha, hm⟩
  subst ha
  refine ⟨b, off, rfl, fun i hi => ?_⟩
  obtain ⟨hlt, h0⟩ := hm i hi
  have e : ∀ o, w'.cell? ⟨b, o, none⟩ = w.cell? ⟨b, o, none⟩ := fun o => by simp [World.cell?, hk.block b hlt (hn b rfl)]
  unfold LkAt
  simp only [e]
  exact ⟨Nat.lt_of_lt_of_le hlt hk.size, h0⟩
theorem new_rel {w w2 w3 : World} {v : Wv} {W : Wd} {a2 a3 : Option Addr} {k2 k3 : Nat} {p0 p2 : Value} (hI : Inss w2 a2 v.pl k2 W.prog ∧ TagV w2 62 (.slice a2 v.pl k2)) (hIk : ∀ k, (Value.slice a2 v.pl k2).ownBlock = some k → w.heap.size < k) (hb3 : Below w2.heap.size w2 w3) (hL : Lks w3 a3 v.ll k3 W.links ∧ TagV w3 65 (.slice a3 v.ll k3)) (hLk : ∀ k, (Value.slice a3 v.ll k3).ownBlock = some k → w.heap.size < k)
    (hB : Below w.heap.size w w3) (hR : w3.heap[w.heap.size]? = some (.cells #[p0, .int .i64 W.self, p2, .int .u64 W.seed] 26 (0, 0))) (hS : w3.heap[w.heap.size + 1]? = some (.cells z10 34 (0, 0))) (hW : Wds w v W) :
    ∃ (pa : Option Addr) (pc : Nat) (la : Option Addr) (lc : Nat), Hid (((w3.setCell ⟨w.heap.size, 0, none⟩ (.slice a2 v.pl k2)).setCell ⟨w.heap.size, 2, none⟩ (.slice a3 v.ll k3)).heap[w.heap.size]? = some (.cells #[.slice pa v.pl pc, .int .i64 W.self, .slice la v.ll lc, .int .u64 W.seed] 26 (0, 0)) ∧
      ((w3.setCell ⟨w.heap.size, 0, none⟩ (.slice a2 v.pl k2)).setCell ⟨w.heap.size, 2, none⟩ (.slice a3 v.ll k3)).heap[w.heap.size + 1]? = some (.cells z10 34 (0, 0)) ∧
      Wds ((w3.setCell ⟨w.heap.size, 0, none⟩ (.slice a2 v.pl k2)).setCell ⟨w.heap.size, 2, none⟩ (.slice a3 v.ll k3)) ⟨pa, v.pl, pc, la, v.ll, lc⟩ W ∧ (TagV ((w3.setCell ⟨w.heap.size, 0, none⟩ (.slice a2 v.pl k2)).setCell ⟨w.heap.size, 2, none⟩ (.slice a3 v.ll k3)) 62 (.slice pa v.pl pc) ∧ TagV ((w3.setCell ⟨w.heap.size, 0, none⟩ (.slice a2 v.pl k2)).setCell ⟨w.heap.size, 2, none⟩ (.slice a3 v.ll k3)) 65 (.slice la v.ll lc)) ∧ Below w.heap.size w ((w3.setCell ⟨w.heap.size, 0, none⟩ (.slice a2 v.pl k2)).setCell ⟨w.heap.size, 2, none⟩ (.slice a3 v.ll k3))) := by
  have hk : KeptOff (fun k => k = w.heap.size) w3 ((w3.setCell ⟨w.heap.size, 0, none⟩ (.slice a2 v.pl k2)).setCell ⟨w.heap.size, 2, none⟩ (.slice a3 v.ll k3)) := (KeptOff.set w3 ⟨w.heap.size, 0, none⟩ _).trans (KeptOff.set _ ⟨w.heap.size, 2, none⟩ _)
  refine ⟨a2, k2, a3, k3, ⟨?_, ?_, ⟨?_, ?_, hW.2.2⟩, ⟨?_, ?_⟩, ?_⟩⟩
  · have h1 := Go.heap_setCell_same _ _ 2 _ _ (.slice a3 v.ll k3) (Go.heap_setCell_same w3 w.heap.size 0 _ _ (.slice a2 v.pl k2) hR)
    simpa using h1
  · exact (hk.block _ (Array.getElem?_eq_some_iff.1 hS).1 (by omega)).trans hS
  · exact (hI.1.below hb3).keptOff hk (fun k e => by have := hIk k e; omega)
  · exact hL.1.keptOff hk (fun k e => by have := hLk k e; omega)
  · exact (hI.2.below hb3).kept hk (fun k e => by have := hIk k e; omega)
  · exact hL.2.kept hk (fun k e => by have := hLk k e; omega)
  · exact hB.trans (hk.below (fun k _ e => by omega) hB.size)
/-- A log that has just been laid. -/
theorem new_log {w wc : World} {W : Wd} {v' : Wv} {every : Int} (hW : Wds wc v' W) (hT : TagV wc 62 (.slice v'.pa v'.pl v'.pc) ∧ TagV wc 65 (.slice v'.la v'.ll v'.lc)) (hB : Below w.heap.size w wc) (he : 1 ≤ every ∧ every ≤ 1024) :
    NewQ w W every (wc.heap.size + 1) ((wc.alloc (.cells #[.int .i64 0, .int .i64 0, .int .i64 0, .int .i64 0, .int .i64 0, .int .i64 0, .int .i64 0, .int .i64 0, .int .i64 0, .int .i64 0, .slice none 0 0] 68)).alloc
      (.cells #[.slice v'.pa v'.pl v'.pc, .int .i64 W.self, .slice v'.la v'.ll v'.lc, .int .u64 W.seed, .int .i64 every, .slice (some ⟨wc.heap.size, 0, none⟩) 1 1, .int .i64 0, .int .i64 0, .int .i64 0, .int .i64 0, .int .i64 0, .int .i64 0, .int .i64 0, .int .i64 0, .int .i64 0, .int .i64 0, .int .i64 0, .bool false] 71)) := by
  have hb := ((Below.refl _ wc).alloc (Nat.le_refl _) (.cells #[.int .i64 0, .int .i64 0, .int .i64 0, .int .i64 0, .int .i64 0, .int .i64 0, .int .i64 0, .int .i64 0, .int .i64 0, .int .i64 0, .slice none 0 0] 68)).alloc (by simp) (.cells #[.slice v'.pa v'.pl v'.pc, .int .i64 W.self, .slice v'.la v'.ll v'.lc, .int .u64 W.seed, .int .i64 every, .slice (some ⟨wc.heap.size, 0, none⟩) 1 1, .int .i64 0, .int .i64 0, .int .i64 0, .int .i64 0, .int .i64 0, .int .i64 0, .int .i64 0, .int .i64 0, .int .i64 0, .int .i64 0, .int .i64 0, .bool false] 71)
  have h2 := heap_alloc_new (wc.alloc (.cells #[.int .i64 0, .int .i64 0, .int .i64 0, .int .i64 0, .int .i64 0, .int .i64 0, .int .i64 0, .int .i64 0, .int .i64 0, .int .i64 0, .slice none 0 0] 68)) (.cells #[.slice v'.pa v'.pl v'.pc, .int .i64 W.self, .slice v'.la v'.ll v'.lc, .int .u64 W.seed, .int .i64 every, .slice (some ⟨wc.heap.size, 0, none⟩) 1 1, .int .i64 0, .int .i64 0, .int .i64 0, .int .i64 0, .int .i64 0, .int .i64 0, .int .i64 0, .int .i64 0, .int .i64 0, .int .i64 0, .int .i64 0, .bool false] 71)
  rw [World.size_alloc] at h2
  have h1 := (((Below.refl _ (wc.alloc (.cells #[.int .i64 0, .int .i64 0, .int .i64 0, .int .i64 0, .int .i64 0, .int .i64 0, .int .i64 0, .int .i64 0, .int .i64 0, .int .i64 0, .slice none 0 0] 68))).alloc (Nat.le_refl _) (.cells #[.slice v'.pa v'.pl v'.pc, .int .i64 W.self, .slice v'.la v'.ll v'.lc, .int .u64 W.seed, .int .i64 every, .slice (some ⟨wc.heap.size, 0, none⟩) 1 1, .int .i64 0, .int .i64 0, .int .i64 0, .int .i64 0, .int .i64 0, .int .i64 0, .int .i64 0, .int .i64 0, .int .i64 0, .int .i64 0, .int .i64 0, .bool false] 71)).block wc.heap.size (by simp)).trans (heap_alloc_new wc _)
  refine ⟨by have := hB.size; omega, hB.trans (hb.mono hB.size), v', wc.heap.size, hB.size, h2, ⟨hW.below hb, ⟨hT.1.below hb, hT.2.below hb⟩, .inr ⟨wc.heap.size, 0, 1, rfl, _, h1, by decide, by unfold maxLen; omega, by decide, rfl, fun j u hj => ?_⟩, fun s hs => ?_, fun s hs p hp => ?_⟩, he, by decide, by simp⟩
  · rw [Nat.zero_add, List.getElem?_toArray]
    exact hj
  · simp at hs; subst hs; exact RowAt.nil _ _ _
  · simp at hs; subst hs; simp at hp
set_option maxHeartbeats 16000000 in
theorem lgNew_ok {w : World} {v : Wv} {W : Wd} {every : Int} {eb : Addr} (hW : Wds w v W) (hE : ErrIs w eb) (hc : checkW W = 0) (hev : 1 ≤ every ∧ every ≤ 1024) :
    Calls Tryz.prog 7 #[v.val W, Sta.zero.val, .int .i64 every] w fun e w' => ∃ lb, e = .returned (.tuple #[.pointer (some ⟨lb, 0, none⟩), .int .i64 0]) ∧ Hid (NewQ w W every lb w') := by
  have mixed := mixed
  have hck := fun (o1 o2 : Obj) => have hb := (((Below.refl _ w).alloc (Nat.le_refl _) o1).alloc (by simp) o2); vmCheck_any (hW.below hb) (hE.below hb)
  rw [hc] at hck
  have hb0 := fun (o1 o2 : Obj) => Lib.hid (((Below.refl _ w).alloc (Nat.le_refl _) o1).alloc (by simp) o2)
  have hR0 := fun (o1 o2 : Obj) => Lib.hid ((((Below.refl _ (w.alloc o1)).alloc (Nat.le_refl _) o2).block w.heap.size (by simp)).trans (heap_alloc_new w o1))
  have hS0 := fun (o1 o2 : Obj) => Lib.hid (show ((w.alloc o1).alloc o2).heap[w.heap.size + 1]? = some o2 from by have := heap_alloc_new (w.alloc o1) o2; rwa [World.size_alloc] at this)
  have hic := fun w => lgIsCount_any 0 w
  rw [show lcountB 0 = true from rfl] at hic
  have hie := fun w => lgIsEvery_any every w
  rw [show leveryB every = true by simp [leveryB]; omega] at hie
  have hz := checkW_zero hc
  have hpl : v.pl ≤ 16384 := by have := checkN_short hz.1; have := hW.1.1; omega
  have hll : v.ll ≤ 16384 := by have := hz.2.2; have := hW.2.1.1; omega
  have hW' := Lib.hid hW
  clear hE hc
  simp only [Wv.val, Sta.val, Sta.cells, Sta.zero, List.map_cons, List.map_nil, List.cons_append, List.nil_append] at *
  go_enter Tryz.func7, Tryz.ntmps7
  go_wp2_with fail
  refine (hck _ _).mono ?_
  rintro e w1 ⟨rfl, hr⟩
  have hB1 := Lib.hid ((hb0 (.cells #[.slice v.pa v.pl v.pc, .int .i64 W.self, .slice v.la v.ll v.lc, .int .u64 W.seed] 26) (.cells z10 34)).out.trans (hr.below.mono (by simp; omega)))
  have hR1 := Lib.hid ((hr.below.block _ (by simp; omega)).trans (hR0 (.cells #[.slice v.pa v.pl v.pc, .int .i64 W.self, .slice v.la v.ll v.lc, .int .u64 W.seed] 26) (.cells z10 34)).out)
  have hS1 := Lib.hid ((hr.below.block _ (by simp)).trans (hS0 (.cells #[.slice v.pa v.pl v.pc, .int .i64 W.self, .slice v.la v.ll v.lc, .int .u64 W.seed] 26) (.cells z10 34)).out)
  clear hck hr hb0 hR0 hS0
  obtain ⟨s0, s1, s2, s3, s4, s5, s6, s7, s8, s9⟩ := row10 hS1.out
  go_upto_region 6 with (first
    | (go_at_call 22; refine (hic _).mono ?_; rintro e w' ⟨rfl, rfl⟩)
    | (go_at_call 23; refine (hie _).mono ?_; rintro e w' ⟨rfl, rfl⟩))
  clear s0 s1 s2 s3 s4 s5 s6 s7 s8 s9 hic hie
  go_cut [] from 29 to 36 (fun wx => ∃ (pa : Option Addr) (pc : Nat) (la : Option Addr) (lc : Nat), Hid (wx.heap[w.heap.size]? = some (.cells #[.slice pa v.pl pc, .int .i64 W.self, .slice la v.ll lc, .int .u64 W.seed] 26 (0, 0)) ∧ wx.heap[w.heap.size + 1]? = some (.cells z10 34 (0, 0)) ∧ Wds wx ⟨pa, v.pl, pc, la, v.ll, lc⟩ W ∧ (TagV wx 62 (.slice pa v.pl pc) ∧ TagV wx 65 (.slice la v.ll lc)) ∧ Below w.heap.size w wx))
  case first =>
    have hB1d : Below w1.heap.size w1 w1.drew := (Below.refl _ w1).drew
    have hlt0 : w.heap.size < w1.heap.size := (Array.getElem?_eq_some_iff.1 hR1.out).1
    have c0 : w1.drew.cell? ⟨w.heap.size, 0, none⟩ = some (.slice v.pa v.pl v.pc) := row_cell (show w1.drew.heap[w.heap.size]? = _ from hR1.out) 0 rfl
    have c2 : w1.drew.cell? ⟨w.heap.size, 2, none⟩ = some (.slice v.la v.ll v.lc) := row_cell (show w1.drew.heap[w.heap.size]? = _ from hR1.out) 2 rfl
    have hBw := hB1.out.trans (hB1d.mono hB1.out.size)
    have hcI : ∀ w', Below w.heap.size w w' → Calls Tryz.prog 24 #[.slice v.pa v.pl v.pc] w' fun e w2 => ∃ a' c', e = .returned (.slice a' v.pl c') ∧ Hid (CloneQ w' w2 (.slice a' v.pl c') fun w2 => Inss w2 a' v.pl c' W.prog ∧ TagV w2 62 (.slice a' v.pl c')) := fun w' hb => cloneIs_any (hW'.out.1.below hb) hpl
    have hcL : ∀ w', Below w.heap.size w w' → Calls Tryz.prog 25 #[.slice v.la v.ll v.lc] w' fun e w2 => ∃ a' c', e = .returned (.slice a' v.ll c') ∧ Hid (CloneQ w' w2 (.slice a' v.ll c') fun w2 => Lks w2 a' v.ll c' W.links ∧ TagV w2 65 (.slice a' v.ll c')) := fun w' hb => cloneLs_any (hW'.out.2.1.below hb) hll
    refine wp_region_any (by kernel_rfl) ?_
    change wpAny _ _ _ _ _ _ _ (World.drew _)
    refine wpAny_take (i := 0) (oi := { dst := some 29, op := Op.fieldAddr 26 (Operand.tmp 3) 0, type := 0, pos := "log.go:37", after := #[], guard := none }) (v := ?vv0_1) rfl (by kernel_rfl) (by kernel_rfl) (by kernel_rfl) (fun _ _ _ h => h) (Or.inl ⟨by rfl, ?hy0_1⟩) ?rest0_1
    case hy0_1 =>
      intro w
      go_simp
      try with_reducible rfl
    try simp only [Act.put, List.setIfInBounds_toArray, List.set_cons_zero, List.set_cons_succ]
    refine wpAny_take (i := 3) (oi := { dst := some 32, op := Op.fieldAddr 26 (Operand.tmp 3) 2, type := 0, pos := "log.go:37", after := #[], guard := none }) (v := ?vv3_2) rfl (by kernel_rfl) (by kernel_rfl) (by kernel_rfl) (fun _ _ _ h => h) (Or.inl ⟨by rfl, ?hy3_2⟩) ?rest3_2
    case hy3_2 =>
      intro w
      go_simp
      try with_reducible rfl
    try simp only [Act.put, List.setIfInBounds_toArray, List.set_cons_zero, List.set_cons_succ]
    refine wpAny_ready (rs := [1, 4]) (by kernel_rfl) (by simp) ?_
    refine AllReady.cons (o := { dst := some 30, op := Op.load 22 (Operand.tmp 29), type := 22, pos := "log.go:37", after := #[{ on := 0, ground := Ground.data }], guard := none }) rfl (fun K hK => ?_) ?_
    · go_simp
      refine hK _ _ ?_
      clear hK K
      try simp only [Act.put, List.setIfInBounds_toArray, List.set_cons_zero, List.set_cons_succ]
      refine wpAny_ready (rs := [2, 4]) (by kernel_rfl) (by simp) ?_
      refine AllReady.cons (o := { dst := some 31, op := Op.call { callee := Callee.value (Operand.func 24), args := #[Operand.tmp 30], argTypes := #[22] }, type := 22, pos := "log.go:37", after := #[{ on := 1, ground := Ground.data }], guard := none }) rfl (fun K hK => ?_) ?_
      · go_simp
        refine (hcI _ hBw).mono ?_
        rintro e w2 ⟨a2, k2, rfl, hq2⟩
        have hBw2 := hBw.trans (hq2.out.2.1.mono hBw.size)
        refine hK _ _ ?_
        clear hK K
        try simp only [Act.put, List.setIfInBounds_toArray, List.set_cons_zero, List.set_cons_succ]
        have c2b : w2.cell? ⟨w.heap.size, 2, none⟩ = some (.slice v.la v.ll v.lc) := (hq2.out.2.1.cell (p := ⟨w.heap.size, 2, none⟩) (Nat.lt_of_lt_of_le hlt0 hB1d.size)).trans c2
        refine wpAny_ready (rs := [4]) (by kernel_rfl) (by simp) ?_
        refine AllReady.cons (o := { dst := some 33, op := Op.load 23 (Operand.tmp 32), type := 23, pos := "log.go:37", after := #[{ on := 3, ground := Ground.data }], guard := none }) rfl (fun K hK => ?_) AllReady.nil
        go_simp
        refine hK _ _ ?_
        clear hK K
        try simp only [Act.put, List.setIfInBounds_toArray, List.set_cons_zero, List.set_cons_succ]
        refine wpAny_take (i := 6) (oi := { dst := some 35, op := Op.fieldAddr 26 (Operand.tmp 3) 0, type := 0, pos := "log.go:37", after := #[{ on := 0, ground := Ground.phase }, { on := 1, ground := Ground.phase }, { on := 2, ground := Ground.phase }, { on := 3, ground := Ground.phase }, { on := 4, ground := Ground.phase }, { on := 5, ground := Ground.textOnly Departure.lateStoresUnsure }], guard := none }) (v := ?vv6_3) rfl (by kernel_rfl) (by kernel_rfl) (by kernel_rfl) (fun _ _ _ h => h) (Or.inl ⟨by rfl, ?hy6_3⟩) ?rest6_3
        case hy6_3 =>
          intro w
          go_simp
          try with_reducible rfl
        try simp only [Act.put, List.setIfInBounds_toArray, List.set_cons_zero, List.set_cons_succ]
        refine wpAny_ready (rs := [5]) (by kernel_rfl) (by simp) ?_
        refine AllReady.cons (o := { dst := some 34, op := Op.call { callee := Callee.value (Operand.func 25), args := #[Operand.tmp 33], argTypes := #[23] }, type := 23, pos := "log.go:37", after := #[{ on := 4, ground := Ground.data }, { on := 2, ground := Ground.chain }], guard := none }) rfl (fun K hK => ?_) AllReady.nil
        go_simp
        refine (hcL _ hBw2).mono ?_
        rintro e w3 ⟨a3, k3, rfl, hq3⟩
        have hBw3 := hBw2.trans (hq3.out.2.1.mono hBw2.size)
        refine hK _ _ ?_
        clear hK K
        try simp only [Act.put, List.setIfInBounds_toArray, List.set_cons_zero, List.set_cons_succ]
        have hRb : w3.heap[w.heap.size]? = some (.cells #[.slice v.pa v.pl v.pc, .int .i64 W.self, .slice v.la v.ll v.lc, .int .u64 W.seed] 26 (0, 0)) := (hq3.out.2.1.block _ (Nat.lt_of_lt_of_le hlt0 (Nat.le_trans hB1d.size hq2.out.2.1.size))).trans ((hq2.out.2.1.block _ (Nat.lt_of_lt_of_le hlt0 hB1d.size)).trans (show w1.drew.heap[w.heap.size]? = _ from hR1.out))
        have hSb : w3.heap[w.heap.size + 1]? = some (.cells z10 34 (0, 0)) := (hq3.out.2.1.block _ (Nat.lt_of_lt_of_le (Array.getElem?_eq_some_iff.1 hS1.out).1 (Nat.le_trans hB1d.size hq2.out.2.1.size))).trans ((hq2.out.2.1.block _ (Nat.lt_of_lt_of_le (Array.getElem?_eq_some_iff.1 hS1.out).1 hB1d.size)).trans (show w1.drew.heap[w.heap.size + 1]? = _ from hS1.out))
        have hfz := fun j => (frozen_of_cells (o := j) hRb)
        have hcx := row4 hRb
        obtain ⟨x0, x1, x2, x3⟩ := hcx
        refine wpAny_ready (rs := [7]) (by kernel_rfl) (by simp) ?_
        refine AllReady.cons (o := { dst := none, op := Op.store 22 (Operand.tmp 35) (Operand.tmp 31), type := 0, pos := "log.go:37", after := #[{ on := 6, ground := Ground.data }, { on := 2, ground := Ground.data }, { on := 5, ground := Ground.chain }, { on := 0, ground := Ground.phase }, { on := 1, ground := Ground.phase }, { on := 2, ground := Ground.phase }, { on := 3, ground := Ground.phase }, { on := 4, ground := Ground.phase }, { on := 5, ground := Ground.textOnly Departure.lateStoresUnsure }], guard := none }) rfl (fun K hK => ?_) AllReady.nil
        go_simp
        refine hK _ _ ?_
        clear hK K
        try simp only [Act.put, List.setIfInBounds_toArray, List.set_cons_zero, List.set_cons_succ]
        refine wpAny_take (i := 8) (oi := { dst := some 36, op := Op.fieldAddr 26 (Operand.tmp 3) 2, type := 0, pos := "log.go:37", after := #[{ on := 0, ground := Ground.phase }, { on := 1, ground := Ground.phase }, { on := 2, ground := Ground.phase }, { on := 3, ground := Ground.phase }, { on := 4, ground := Ground.phase }, { on := 5, ground := Ground.phase }, { on := 6, ground := Ground.phase }, { on := 7, ground := Ground.phase }], guard := none }) (v := ?vv8_4) rfl (by kernel_rfl) (by kernel_rfl) (by kernel_rfl) (fun _ _ _ h => h) (Or.inl ⟨by rfl, ?hy8_4⟩) ?rest8_4
        case hy8_4 =>
          intro w
          go_simp
          try with_reducible rfl
        try simp only [Act.put, List.setIfInBounds_toArray, List.set_cons_zero, List.set_cons_succ]
        refine wpAny_ready (rs := [9]) (by kernel_rfl) (by simp) ?_
        refine AllReady.cons (o := { dst := none, op := Op.store 23 (Operand.tmp 36) (Operand.tmp 34), type := 0, pos := "log.go:37", after := #[{ on := 8, ground := Ground.data }, { on := 5, ground := Ground.data }, { on := 7, ground := Ground.chain }, { on := 0, ground := Ground.phase }, { on := 1, ground := Ground.phase }, { on := 2, ground := Ground.phase }, { on := 3, ground := Ground.phase }, { on := 4, ground := Ground.phase }, { on := 5, ground := Ground.phase }, { on := 6, ground := Ground.phase }, { on := 7, ground := Ground.phase }], guard := none }) rfl (fun K hK => ?_) AllReady.nil
        go_simp
        refine hK _ _ ?_
        clear hK K
        try simp only [Act.put, List.setIfInBounds_toArray, List.set_cons_zero, List.set_cons_succ]
        refine wpAny_done (by kernel_rfl) ?_ _
        go_wp2_with fail
        go_meet
        case rel => exact new_rel hq2.out.1 (fun k e => Nat.lt_of_lt_of_le hlt0 (Nat.le_trans hB1d.size (hq2.out.2.2 k e))) hq3.out.2.1 hq3.out.1 (fun k e => Nat.lt_of_lt_of_le hlt0 (Nat.le_trans hB1d.size (Nat.le_trans hq2.out.2.1.size (hq3.out.2.2 k e)))) hBw3 hRb hSb hW'.out
      refine AllReady.cons (o := { dst := some 33, op := Op.load 23 (Operand.tmp 32), type := 23, pos := "log.go:37", after := #[{ on := 3, ground := Ground.data }], guard := none }) rfl (fun K hK => ?_) AllReady.nil
      go_simp
      refine hK _ _ ?_
      clear hK K
      try simp only [Act.put, List.setIfInBounds_toArray, List.set_cons_zero, List.set_cons_succ]
      refine wpAny_ready (rs := [2]) (by kernel_rfl) (by simp) ?_
      refine AllReady.cons (o := { dst := some 31, op := Op.call { callee := Callee.value (Operand.func 24), args := #[Operand.tmp 30], argTypes := #[22] }, type := 22, pos := "log.go:37", after := #[{ on := 1, ground := Ground.data }], guard := none }) rfl (fun K hK => ?_) AllReady.nil
      go_simp
      refine (hcI _ hBw).mono ?_
      rintro e w2 ⟨a2, k2, rfl, hq2⟩
      have hBw2 := hBw.trans (hq2.out.2.1.mono hBw.size)
      refine hK _ _ ?_
      clear hK K
      try simp only [Act.put, List.setIfInBounds_toArray, List.set_cons_zero, List.set_cons_succ]
      refine wpAny_take (i := 6) (oi := { dst := some 35, op := Op.fieldAddr 26 (Operand.tmp 3) 0, type := 0, pos := "log.go:37", after := #[{ on := 0, ground := Ground.phase }, { on := 1, ground := Ground.phase }, { on := 2, ground := Ground.phase }, { on := 3, ground := Ground.phase }, { on := 4, ground := Ground.phase }, { on := 5, ground := Ground.textOnly Departure.lateStoresUnsure }], guard := none }) (v := ?vv6_5) rfl (by kernel_rfl) (by kernel_rfl) (by kernel_rfl) (fun _ _ _ h => h) (Or.inl ⟨by rfl, ?hy6_5⟩) ?rest6_5
      case hy6_5 =>
        intro w
        go_simp
        try with_reducible rfl
      try simp only [Act.put, List.setIfInBounds_toArray, List.set_cons_zero, List.set_cons_succ]
      refine wpAny_ready (rs := [5]) (by kernel_rfl) (by simp) ?_
      refine AllReady.cons (o := { dst := some 34, op := Op.call { callee := Callee.value (Operand.func 25), args := #[Operand.tmp 33], argTypes := #[23] }, type := 23, pos := "log.go:37", after := #[{ on := 4, ground := Ground.data }, { on := 2, ground := Ground.chain }], guard := none }) rfl (fun K hK => ?_) AllReady.nil
      go_simp
      refine (hcL _ hBw2).mono ?_
      rintro e w3 ⟨a3, k3, rfl, hq3⟩
      have hBw3 := hBw2.trans (hq3.out.2.1.mono hBw2.size)
      refine hK _ _ ?_
      clear hK K
      try simp only [Act.put, List.setIfInBounds_toArray, List.set_cons_zero, List.set_cons_succ]
      have hRb : w3.heap[w.heap.size]? = some (.cells #[.slice v.pa v.pl v.pc, .int .i64 W.self, .slice v.la v.ll v.lc, .int .u64 W.seed] 26 (0, 0)) := (hq3.out.2.1.block _ (Nat.lt_of_lt_of_le hlt0 (Nat.le_trans hB1d.size hq2.out.2.1.size))).trans ((hq2.out.2.1.block _ (Nat.lt_of_lt_of_le hlt0 hB1d.size)).trans (show w1.drew.heap[w.heap.size]? = _ from hR1.out))
      have hSb : w3.heap[w.heap.size + 1]? = some (.cells z10 34 (0, 0)) := (hq3.out.2.1.block _ (Nat.lt_of_lt_of_le (Array.getElem?_eq_some_iff.1 hS1.out).1 (Nat.le_trans hB1d.size hq2.out.2.1.size))).trans ((hq2.out.2.1.block _ (Nat.lt_of_lt_of_le (Array.getElem?_eq_some_iff.1 hS1.out).1 hB1d.size)).trans (show w1.drew.heap[w.heap.size + 1]? = _ from hS1.out))
      have hfz := fun j => (frozen_of_cells (o := j) hRb)
      have hcx := row4 hRb
      obtain ⟨x0, x1, x2, x3⟩ := hcx
      refine wpAny_ready (rs := [7]) (by kernel_rfl) (by simp) ?_
      refine AllReady.cons (o := { dst := none, op := Op.store 22 (Operand.tmp 35) (Operand.tmp 31), type := 0, pos := "log.go:37", after := #[{ on := 6, ground := Ground.data }, { on := 2, ground := Ground.data }, { on := 5, ground := Ground.chain }, { on := 0, ground := Ground.phase }, { on := 1, ground := Ground.phase }, { on := 2, ground := Ground.phase }, { on := 3, ground := Ground.phase }, { on := 4, ground := Ground.phase }, { on := 5, ground := Ground.textOnly Departure.lateStoresUnsure }], guard := none }) rfl (fun K hK => ?_) AllReady.nil
      go_simp
      refine hK _ _ ?_
      clear hK K
      try simp only [Act.put, List.setIfInBounds_toArray, List.set_cons_zero, List.set_cons_succ]
      refine wpAny_take (i := 8) (oi := { dst := some 36, op := Op.fieldAddr 26 (Operand.tmp 3) 2, type := 0, pos := "log.go:37", after := #[{ on := 0, ground := Ground.phase }, { on := 1, ground := Ground.phase }, { on := 2, ground := Ground.phase }, { on := 3, ground := Ground.phase }, { on := 4, ground := Ground.phase }, { on := 5, ground := Ground.phase }, { on := 6, ground := Ground.phase }, { on := 7, ground := Ground.phase }], guard := none }) (v := ?vv8_6) rfl (by kernel_rfl) (by kernel_rfl) (by kernel_rfl) (fun _ _ _ h => h) (Or.inl ⟨by rfl, ?hy8_6⟩) ?rest8_6
      case hy8_6 =>
        intro w
        go_simp
        try with_reducible rfl
      try simp only [Act.put, List.setIfInBounds_toArray, List.set_cons_zero, List.set_cons_succ]
      refine wpAny_ready (rs := [9]) (by kernel_rfl) (by simp) ?_
      refine AllReady.cons (o := { dst := none, op := Op.store 23 (Operand.tmp 36) (Operand.tmp 34), type := 0, pos := "log.go:37", after := #[{ on := 8, ground := Ground.data }, { on := 5, ground := Ground.data }, { on := 7, ground := Ground.chain }, { on := 0, ground := Ground.phase }, { on := 1, ground := Ground.phase }, { on := 2, ground := Ground.phase }, { on := 3, ground := Ground.phase }, { on := 4, ground := Ground.phase }, { on := 5, ground := Ground.phase }, { on := 6, ground := Ground.phase }, { on := 7, ground := Ground.phase }], guard := none }) rfl (fun K hK => ?_) AllReady.nil
      go_simp
      refine hK _ _ ?_
      clear hK K
      try simp only [Act.put, List.setIfInBounds_toArray, List.set_cons_zero, List.set_cons_succ]
      refine wpAny_done (by kernel_rfl) ?_ _
      go_wp2_with fail
      go_meet
      case rel => exact new_rel hq2.out.1 (fun k e => Nat.lt_of_lt_of_le hlt0 (Nat.le_trans hB1d.size (hq2.out.2.2 k e))) hq3.out.2.1 hq3.out.1 (fun k e => Nat.lt_of_lt_of_le hlt0 (Nat.le_trans hB1d.size (Nat.le_trans hq2.out.2.1.size (hq3.out.2.2 k e)))) hBw3 hRb hSb hW'.out
    refine AllReady.cons (o := { dst := some 33, op := Op.load 23 (Operand.tmp 32), type := 23, pos := "log.go:37", after := #[{ on := 3, ground := Ground.data }], guard := none }) rfl (fun K hK => ?_) ?_
    · go_simp
      refine hK _ _ ?_
      clear hK K
      try simp only [Act.put, List.setIfInBounds_toArray, List.set_cons_zero, List.set_cons_succ]
      refine wpAny_ready (rs := [1]) (by kernel_rfl) (by simp) ?_
      refine AllReady.cons (o := { dst := some 30, op := Op.load 22 (Operand.tmp 29), type := 22, pos := "log.go:37", after := #[{ on := 0, ground := Ground.data }], guard := none }) rfl (fun K hK => ?_) AllReady.nil
      go_simp
      refine hK _ _ ?_
      clear hK K
      try simp only [Act.put, List.setIfInBounds_toArray, List.set_cons_zero, List.set_cons_succ]
      refine wpAny_ready (rs := [2]) (by kernel_rfl) (by simp) ?_
      refine AllReady.cons (o := { dst := some 31, op := Op.call { callee := Callee.value (Operand.func 24), args := #[Operand.tmp 30], argTypes := #[22] }, type := 22, pos := "log.go:37", after := #[{ on := 1, ground := Ground.data }], guard := none }) rfl (fun K hK => ?_) AllReady.nil
      go_simp
      refine (hcI _ hBw).mono ?_
      rintro e w2 ⟨a2, k2, rfl, hq2⟩
      have hBw2 := hBw.trans (hq2.out.2.1.mono hBw.size)
      refine hK _ _ ?_
      clear hK K
      try simp only [Act.put, List.setIfInBounds_toArray, List.set_cons_zero, List.set_cons_succ]
      refine wpAny_take (i := 6) (oi := { dst := some 35, op := Op.fieldAddr 26 (Operand.tmp 3) 0, type := 0, pos := "log.go:37", after := #[{ on := 0, ground := Ground.phase }, { on := 1, ground := Ground.phase }, { on := 2, ground := Ground.phase }, { on := 3, ground := Ground.phase }, { on := 4, ground := Ground.phase }, { on := 5, ground := Ground.textOnly Departure.lateStoresUnsure }], guard := none }) (v := ?vv6_7) rfl (by kernel_rfl) (by kernel_rfl) (by kernel_rfl) (fun _ _ _ h => h) (Or.inl ⟨by rfl, ?hy6_7⟩) ?rest6_7
      case hy6_7 =>
        intro w
        go_simp
        try with_reducible rfl
      try simp only [Act.put, List.setIfInBounds_toArray, List.set_cons_zero, List.set_cons_succ]
      refine wpAny_ready (rs := [5]) (by kernel_rfl) (by simp) ?_
      refine AllReady.cons (o := { dst := some 34, op := Op.call { callee := Callee.value (Operand.func 25), args := #[Operand.tmp 33], argTypes := #[23] }, type := 23, pos := "log.go:37", after := #[{ on := 4, ground := Ground.data }, { on := 2, ground := Ground.chain }], guard := none }) rfl (fun K hK => ?_) AllReady.nil
      go_simp
      refine (hcL _ hBw2).mono ?_
      rintro e w3 ⟨a3, k3, rfl, hq3⟩
      have hBw3 := hBw2.trans (hq3.out.2.1.mono hBw2.size)
      refine hK _ _ ?_
      clear hK K
      try simp only [Act.put, List.setIfInBounds_toArray, List.set_cons_zero, List.set_cons_succ]
      have hRb : w3.heap[w.heap.size]? = some (.cells #[.slice v.pa v.pl v.pc, .int .i64 W.self, .slice v.la v.ll v.lc, .int .u64 W.seed] 26 (0, 0)) := (hq3.out.2.1.block _ (Nat.lt_of_lt_of_le hlt0 (Nat.le_trans hB1d.size hq2.out.2.1.size))).trans ((hq2.out.2.1.block _ (Nat.lt_of_lt_of_le hlt0 hB1d.size)).trans (show w1.drew.heap[w.heap.size]? = _ from hR1.out))
      have hSb : w3.heap[w.heap.size + 1]? = some (.cells z10 34 (0, 0)) := (hq3.out.2.1.block _ (Nat.lt_of_lt_of_le (Array.getElem?_eq_some_iff.1 hS1.out).1 (Nat.le_trans hB1d.size hq2.out.2.1.size))).trans ((hq2.out.2.1.block _ (Nat.lt_of_lt_of_le (Array.getElem?_eq_some_iff.1 hS1.out).1 hB1d.size)).trans (show w1.drew.heap[w.heap.size + 1]? = _ from hS1.out))
      have hfz := fun j => (frozen_of_cells (o := j) hRb)
      have hcx := row4 hRb
      obtain ⟨x0, x1, x2, x3⟩ := hcx
      refine wpAny_ready (rs := [7]) (by kernel_rfl) (by simp) ?_
      refine AllReady.cons (o := { dst := none, op := Op.store 22 (Operand.tmp 35) (Operand.tmp 31), type := 0, pos := "log.go:37", after := #[{ on := 6, ground := Ground.data }, { on := 2, ground := Ground.data }, { on := 5, ground := Ground.chain }, { on := 0, ground := Ground.phase }, { on := 1, ground := Ground.phase }, { on := 2, ground := Ground.phase }, { on := 3, ground := Ground.phase }, { on := 4, ground := Ground.phase }, { on := 5, ground := Ground.textOnly Departure.lateStoresUnsure }], guard := none }) rfl (fun K hK => ?_) AllReady.nil
      go_simp
      refine hK _ _ ?_
      clear hK K
      try simp only [Act.put, List.setIfInBounds_toArray, List.set_cons_zero, List.set_cons_succ]
      refine wpAny_take (i := 8) (oi := { dst := some 36, op := Op.fieldAddr 26 (Operand.tmp 3) 2, type := 0, pos := "log.go:37", after := #[{ on := 0, ground := Ground.phase }, { on := 1, ground := Ground.phase }, { on := 2, ground := Ground.phase }, { on := 3, ground := Ground.phase }, { on := 4, ground := Ground.phase }, { on := 5, ground := Ground.phase }, { on := 6, ground := Ground.phase }, { on := 7, ground := Ground.phase }], guard := none }) (v := ?vv8_8) rfl (by kernel_rfl) (by kernel_rfl) (by kernel_rfl) (fun _ _ _ h => h) (Or.inl ⟨by rfl, ?hy8_8⟩) ?rest8_8
      case hy8_8 =>
        intro w
        go_simp
        try with_reducible rfl
      try simp only [Act.put, List.setIfInBounds_toArray, List.set_cons_zero, List.set_cons_succ]
      refine wpAny_ready (rs := [9]) (by kernel_rfl) (by simp) ?_
      refine AllReady.cons (o := { dst := none, op := Op.store 23 (Operand.tmp 36) (Operand.tmp 34), type := 0, pos := "log.go:37", after := #[{ on := 8, ground := Ground.data }, { on := 5, ground := Ground.data }, { on := 7, ground := Ground.chain }, { on := 0, ground := Ground.phase }, { on := 1, ground := Ground.phase }, { on := 2, ground := Ground.phase }, { on := 3, ground := Ground.phase }, { on := 4, ground := Ground.phase }, { on := 5, ground := Ground.phase }, { on := 6, ground := Ground.phase }, { on := 7, ground := Ground.phase }], guard := none }) rfl (fun K hK => ?_) AllReady.nil
      go_simp
      refine hK _ _ ?_
      clear hK K
      try simp only [Act.put, List.setIfInBounds_toArray, List.set_cons_zero, List.set_cons_succ]
      refine wpAny_done (by kernel_rfl) ?_ _
      go_wp2_with fail
      go_meet
      case rel => exact new_rel hq2.out.1 (fun k e => Nat.lt_of_lt_of_le hlt0 (Nat.le_trans hB1d.size (hq2.out.2.2 k e))) hq3.out.2.1 hq3.out.1 (fun k e => Nat.lt_of_lt_of_le hlt0 (Nat.le_trans hB1d.size (Nat.le_trans hq2.out.2.1.size (hq3.out.2.2 k e)))) hBw3 hRb hSb hW'.out
    exact AllReady.nil
  case rest =>
    obtain ⟨pa, pc, la, lc, hc⟩ := hcut
    have hcc := Lib.hid hc.out
    obtain ⟨b0, b1, b2, b3⟩ := row4 hc.out.1
    obtain ⟨s0, s1, s2, s3, s4, s5, s6, s7, s8, s9⟩ := row10 hc.out.2.1
    have hev' := Lib.hid hev
    have hsz : w.heap.size + 1 < wc.heap.size := (Array.getElem?_eq_some_iff.1 hc.out.2.1).1
    clear hc hR1 hS1 hB1 hW' hz hev hW
    go_wp2
    go_ret2
    exact ⟨_, rfl, new_log (v' := ⟨pa, v.pl, pc, la, v.ll, lc⟩) hcc.out.2.2.1 hcc.out.2.2.2.1 hcc.out.2.2.2.2 hev'.out⟩
end Go.Proofs.YtminfmjgmmkaoaaGreatDoor
namespace Go.Proofs.YtminfmjgmmkaoaaGreatDoor
open Go.ChangeShapes Go.WideShapes Go.ChangeAt Go.Shelf Go.RowKit Go.Lib Go.Sort Go.Deep
set_option linter.unusedVariables false
set_option maxRecDepth 4000
set_option linter.unusedSimpArgs false

/-- A log in memory, its length said apart. -/
structure LogX (w : World) (lb : Nat) (v : Wv) (W : Wd) (every : Int) (sv : Value) (ss : List Sth) (len : Int) (st : Sta) (stuck : Bool) : Prop where
  row : w.heap[lb]? = some (.cells (logC v W every sv len st stuck) 71 (0, 0))
  rd : LogRd w v W sv ss
  apart : (ss.map Sth.v).Pairwise apartV
section
variable {w w' : World} {lb : Nat} {v : Wv} {W : Wd} {every len : Int} {sv : Value} {ss : List Sth} {st : Sta} {stuck : Bool}
theorem LogOf.x (h : LogOf w lb v W every sv ss st stuck) : LogX w lb v W every sv ss (total ss) st stuck := ⟨h.row, h.rd, h.apart⟩
theorem LogX.of (h : LogX w lb v W every sv ss len st stuck) (he : 1 ≤ every ∧ every ≤ 1024) (hp : 0 < ss.length) (hl : len = total ss) : LogOf w lb v W every sv ss st stuck := ⟨hl ▸ h.row, h.rd, he, hp, h.apart⟩
theorem LogX.lt (h : LogX w lb v W every sv ss len st stuck) : lb < w.heap.size := (Array.getElem?_eq_some_iff.1 h.row).1
theorem LogRd.svt (h : LogRd w v W sv ss) : TagV w 68 sv := fun k hk => RowAt.tag h.abv hk
theorem LogRd.stt (h : LogRd w v W sv ss) {s : Sth} (hs : s ∈ ss) : TagV w 101 s.v := fun k hk => RowAt.tag (h.each s hs) hk
theorem logt {w : World} {lb : Nat} {cs : Array Value} (h : w.heap[lb]? = some (.cells cs 71 (0, 0))) : TagV w 71 (.slice (some ⟨lb, 0, none⟩) 0 0) := fun k hk => by
  simp [Value.ownBlock] at hk
  subst hk
  exact ⟨_, h⟩
theorem own_lb (lb : Nat) : (Value.slice (some ⟨lb, 0, none⟩) 0 0).ownBlock = some lb := rfl
theorem LogRd.kept {S : Nat → Prop} (h : LogRd w v W sv ss) (hk : KeptOff S w w') (h1 : ∀ k, (Value.slice v.pa v.pl v.pc).ownBlock = some k → ¬ S k) (h2 : ∀ k, (Value.slice v.la v.ll v.lc).ownBlock = some k → ¬ S k) (h3 : ∀ k, sv.ownBlock = some k → ¬ S k)
    (h4 : ∀ s ∈ ss, ∀ k, s.v.ownBlock = some k → ¬ S k) (h5 : ∀ s ∈ ss, ∀ p ∈ s.L, ∀ k, p.sv.ownBlock = some k → ¬ S k) : LogRd w' v W sv ss :=
  ⟨⟨h.wds.1.keptOff hk h1, h.wds.2.1.keptOff hk h2, h.wds.2.2⟩, ⟨h.wtag.1.kept hk h1, h.wtag.2.kept hk h2⟩, RowAt.kept h.abv hk h3, fun s hs => RowAt.kept (h.each s hs) hk (h4 s hs), fun s hs p hp => ⟨(h.sents s hs p hp).1.kept hk (h5 s hs p hp), (h.sents s hs p hp).2.kept hk (h5 s hs p hp)⟩⟩
theorem LogRd.below (h : LogRd w v W sv ss) (hb : Below w.heap.size w w') : LogRd w' v W sv ss := h.kept (S := fun _ => False) (.of_below hb) (fun _ _ e => e) (fun _ _ e => e) (fun _ _ e => e) (fun _ _ _ _ e => e) (fun _ _ _ _ _ _ e => e)
/-- Where just the log's own block is written. -/
theorem LogRd.keptLb (h : LogRd w v W sv ss) {cs : Array Value} (hr : w.heap[lb]? = some (.cells cs 71 (0, 0))) (hk : KeptOff (fun k => k = lb) w w') : LogRd w' v W sv ss :=
  h.kept hk (fun k e e2 => h.wtag.1.ne (logt hr) (by decide) k e (e2 ▸ own_lb lb)) (fun k e e2 => h.wtag.2.ne (logt hr) (by decide) k e (e2 ▸ own_lb lb)) (fun k e e2 => h.svt.ne (logt hr) (by decide) k e (e2 ▸ own_lb lb))
    (fun s hs k e e2 => (h.stt hs).ne (logt hr) (by decide) k e (e2 ▸ own_lb lb)) (fun s hs p hp k e e2 => (h.sents s hs p hp).2.ne (logt hr) (by decide) k e (e2 ▸ own_lb lb))
theorem LogX.below (h : LogX w lb v W every sv ss len st stuck) (hb : Below w.heap.size w w') : LogX w' lb v W every sv ss len st stuck := ⟨(hb.block _ h.lt).trans h.row, h.rd.below hb, h.apart⟩
/-- A cell of the log's block. -/
theorem LogX.setC (h : LogX w lb v W every sv ss len st stuck) (i : Nat) (u : Value) {every' len' : Int} {st' : Sta} {stuck' : Bool} (he : (logC v W every sv len st stuck).setIfInBounds i u = logC v W every' sv len' st' stuck') :
    LogX (w.setCell ⟨lb, i, none⟩ u) lb v W every' sv ss len' st' stuck' :=
  ⟨by rw [Go.heap_setCell_same w lb i _ _ u h.row, he], h.rd.keptLb h.row (KeptOff.set w ⟨lb, i, none⟩ u), h.apart⟩
theorem LogX.setLen (h : LogX w lb v W every sv ss len st stuck) (z : Int) : LogX (w.setCell ⟨lb, 6, none⟩ (.int .i64 z)) lb v W every sv ss z st stuck := h.setC 6 _ rfl
theorem LogX.setStuck (h : LogX w lb v W every sv ss len st stuck) (b : Bool) : LogX (w.setCell ⟨lb, 17, none⟩ (.bool b)) lb v W every sv ss len st b := h.setC 17 _ rfl
theorem LogX.c4 (h : LogX w lb v W every sv ss len st stuck) : w.cell? ⟨lb, 4, none⟩ = some (.int .i64 every) := row_cell h.row 4 rfl
theorem LogX.c5 (h : LogX w lb v W every sv ss len st stuck) : w.cell? ⟨lb, 5, none⟩ = some sv := row_cell h.row 5 rfl
theorem LogX.c6 (h : LogX w lb v W every sv ss len st stuck) : w.cell? ⟨lb, 6, none⟩ = some (.int .i64 len) := row_cell h.row 6 rfl
theorem LogX.c17 (h : LogX w lb v W every sv ss len st stuck) : w.cell? ⟨lb, 17, none⟩ = some (.bool stuck) := row_cell h.row 17 rfl
theorem LogX.fz (h : LogX w lb v W every sv ss len st stuck) (o : Nat) : w.frozen? ⟨lb, o, none⟩ = false := frozen_of_cells h.row

/-- A stretch more: behind the append and the store. -/
theorem LogX.grow (h : LogX w lb v W every sv ss len st stuck) {w1 : World} (bf : Sta) {g off cap : Nat} (hR : RowIn w1 68 11 g off (ss.length + 1) cap ((ss ++ [(⟨bf, .slice none 0 0, []⟩ : Sth)]).flatMap encT)) (hk : KeptOff (fun k => sv.ownBlock = some k) w w1) :
    LogX (w1.setCell ⟨lb, 5, none⟩ (.slice (some ⟨g, off, none⟩) (ss.length + 1) cap)) lb v W every (.slice (some ⟨g, off, none⟩) (ss.length + 1) cap) (ss ++ [(⟨bf, .slice none 0 0, []⟩ : Sth)]) len st stuck := by
  have hlb : sv.ownBlock ≠ some lb := fun e => h.rd.svt.ne (logt h.row) (by decide) lb e (own_lb lb)
  have hrow1 : w1.heap[lb]? = some (.cells (logC v W every sv len st stuck) 71 (0, 0)) := (hk.block lb h.lt hlb).trans h.row
  have hgl : g ≠ lb := fun e => by
    obtain ⟨cur, h0, _⟩ := hR
    rw [e, hrow1] at h0
    simp at h0
  have hks := KeptOff.set w1 ⟨lb, 5, none⟩ (.slice (some ⟨g, off, none⟩) (ss.length + 1) cap)
  have hS := hk.mono (S' := fun k => sv.ownBlock = some k ∨ k = lb) (fun k _ e => .inl e) |>.trans (hks.mono (fun k _ e => .inr e))
  have n1 : ∀ {v' : Value} {e : TypeId}, TagV w e v' → e ≠ 68 → e ≠ 71 → ∀ k, v'.ownBlock = some k → ¬ (sv.ownBlock = some k ∨ k = lb) := fun ht h1 h2 k e0 e1 => by
    rcases e1 with e1 | e1
    · exact ht.ne h.rd.svt h1 k e0 e1
    · exact ht.ne (logt h.row) h2 k e0 (e1 ▸ own_lb lb)
  refine ⟨?_, ⟨⟨h.rd.wds.1.keptOff hS (n1 h.rd.wtag.1 (by decide) (by decide)), h.rd.wds.2.1.keptOff hS (n1 h.rd.wtag.2 (by decide) (by decide)), h.rd.wds.2.2⟩, ⟨h.rd.wtag.1.kept hS (n1 h.rd.wtag.1 (by decide) (by decide)), h.rd.wtag.2.kept hS (n1 h.rd.wtag.2 (by decide) (by decide))⟩, ?_, fun s hs => ?_, fun s hs p hp => ?_⟩, ?_⟩
  · rw [Go.heap_setCell_same w1 lb 5 _ _ _ hrow1]; rfl
  · exact .inr ⟨g, off, cap, by simp, by simpa using hR.kept hks hgl⟩
  · rcases List.mem_append.1 hs with hs | hs
    · exact RowAt.kept (h.rd.each s hs) hS (n1 (h.rd.stt hs) (by decide) (by decide))
    · simp at hs; subst hs; exact RowAt.nil _ _ _
  · rcases List.mem_append.1 hs with hs | hs
    · exact ⟨(h.rd.sents s hs p hp).1.kept hS (n1 (h.rd.sents s hs p hp).2 (by decide) (by decide)), (h.rd.sents s hs p hp).2.kept hS (n1 (h.rd.sents s hs p hp).2 (by decide) (by decide))⟩
    · simp at hs; subst hs; simp at hp
  · rw [List.map_append, List.pairwise_append]
    exact ⟨h.apart, by simp, fun a _ b hb k e1 e2 => by simp at hb; subst hb; cases e2⟩
theorem flatT_set (pre : List Sth) (s : Sth) (v1 : Value) (L1 : List Stp) : ((pre ++ [s]).flatMap encT).set (pre.length * 11 + 10) v1 = (pre ++ [(⟨s.kept, v1, L1⟩ : Sth)]).flatMap encT := by
  have hl : (pre.flatMap encT).length = pre.length * 11 := flatOf_length encT_length pre
  rw [List.flatMap_append, List.flatMap_append, List.set_append_right _ _ (by omega), show pre.length * 11 + 10 - (pre.flatMap encT).length = 10 by omega]
  rfl
/-- A step more in the last stretch: behind the append and the store. -/
theorem LogX.more {pre : List Sth} {s : Sth} {g off cap : Nat} (h : LogX w lb v W every (.slice (some ⟨g, off, none⟩) (pre.length + 1) cap) (pre ++ [s]) len st stuck) {w1 : World} (p : Stp) {hb o2 c2 : Nat}
    (hR : RowIn w1 101 9 hb o2 (s.L.length + 1) c2 ((s.L ++ [p]).flatMap encP)) (hk : KeptOff (fun k => s.v.ownBlock = some k) w w1) (hn : s.v.ownBlock = some hb ∨ w.heap.size ≤ hb) (hp : Sent w1 p.sv p.sent ∧ TagV w1 42 p.sv) :
    LogX (w1.setCell ⟨g, off + (pre.length * 11 + 10), none⟩ (.slice (some ⟨hb, o2, none⟩) (s.L.length + 1) c2)) lb v W every (.slice (some ⟨g, off, none⟩) (pre.length + 1) cap) (pre ++ [⟨s.kept, .slice (some ⟨hb, o2, none⟩) (s.L.length + 1) c2, s.L ++ [p]⟩]) len st stuck := by
  have hs : s ∈ pre ++ [s] := List.mem_append_right _ (List.mem_singleton.2 rfl)
  have hg : (Value.slice (some ⟨g, off, none⟩) (pre.length + 1) cap).ownBlock = some g := rfl
  have hsg : s.v.ownBlock ≠ some g := fun e => (h.rd.stt hs).ne h.rd.svt (by decide) g e hg
  have hgw : g < w.heap.size := h.rd.svt.lt g hg
  have hgw1 := Nat.lt_of_lt_of_le hgw hk.size
  have hbg : hb ≠ g := fun e => by
    rcases hn with hn | hn
    · exact hsg (e ▸ hn)
    · omega
  have habv : ∃ off' cap', RowIn w 68 11 g off' (pre.length + 1) cap' ((pre ++ [s]).flatMap encT) ∧ off' = off ∧ cap' = cap := by
    rcases h.rd.abv with ⟨e, _⟩ | ⟨g', off', cap', e, hr⟩
    · cases e
    · simp at e
      obtain ⟨⟨rfl, rfl⟩, rfl⟩ := e
      exact ⟨_, _, by simpa using hr, rfl, rfl⟩
  obtain ⟨off', cap', habv, ho, hc⟩ := habv
  rw [ho, hc] at habv
  have hks := KeptOff.set w1 ⟨g, off + (pre.length * 11 + 10), none⟩ (.slice (some ⟨hb, o2, none⟩) (s.L.length + 1) c2)
  have hS := hk.mono (S' := fun k => s.v.ownBlock = some k ∨ k = g) (fun k _ e => .inl e) |>.trans (hks.mono (fun k _ e => .inr e))
  have n1 : ∀ {v' : Value} {e : TypeId}, TagV w e v' → e ≠ 68 → e ≠ 101 → ∀ k, v'.ownBlock = some k → ¬ (s.v.ownBlock = some k ∨ k = g) := fun ht h1 h2 k e0 e1 => by
    rcases e1 with e1 | e1
    · exact ht.ne (h.rd.stt hs) h2 k e0 e1
    · exact ht.ne h.rd.svt h1 k e0 (e1 ▸ hg)
  have hpre : ∀ t ∈ pre, ∀ k, t.v.ownBlock = some k → s.v.ownBlock = some k → False := fun t ht k e1 e2 => by
    have hap := h.apart
    rw [List.map_append, List.pairwise_append] at hap
    exact hap.2.2 t.v (List.mem_map_of_mem ht) s.v (by simp) k e1 e2
  have hin : ∀ t ∈ pre, t ∈ pre ++ [s] := fun t ht => List.mem_append_left _ ht
  have hlt : ∀ t ∈ pre, ∀ k, t.v.ownBlock = some k → k < w.heap.size := fun t ht k e => (h.rd.stt (hin t ht)).lt k e
  have hps : ∀ k, p.sv.ownBlock = some k → k ≠ g := fun k e e2 => by
    have hgt : TagV w1 68 (.slice (some ⟨g, off, none⟩) (pre.length + 1) cap) := h.rd.svt.kept hk (fun k e0 e1 => by simp [Value.ownBlock] at e0; subst e0; exact hsg e1)
    exact hp.2.ne hgt (by decide) k e (e2 ▸ hg)
  refine ⟨?_, ⟨⟨h.rd.wds.1.keptOff hS (n1 h.rd.wtag.1 (by decide) (by decide)), h.rd.wds.2.1.keptOff hS (n1 h.rd.wtag.2 (by decide) (by decide)), h.rd.wds.2.2⟩, ⟨h.rd.wtag.1.kept hS (n1 h.rd.wtag.1 (by decide) (by decide)), h.rd.wtag.2.kept hS (n1 h.rd.wtag.2 (by decide) (by decide))⟩, ?_, fun t ht => ?_, fun t ht q hq => ?_⟩, ?_⟩
  · exact (hS.block lb h.lt (n1 (logt h.row) (by decide) (by decide) lb (own_lb lb))).trans h.row
  · refine .inr ⟨g, off, cap, by simp, ?_⟩
    have h1 := (habv.kept hk hsg).set1 (pre.length * 11 + 10) (.slice (some ⟨hb, o2, none⟩) (s.L.length + 1) c2) (by rw [flatOf_length encT_length]; simp; omega)
    rw [flatT_set pre s _ (s.L ++ [p])] at h1
    simpa using h1
  · rcases List.mem_append.1 ht with ht | ht
    · exact RowAt.kept (h.rd.each t (hin t ht)) hS (fun k e e2 => by
        rcases e2 with e2 | e2
        · exact hpre t ht k e e2
        · exact (h.rd.stt (hin t ht)).ne h.rd.svt (by decide) k e (e2 ▸ hg))
    · simp at ht; subst ht
      exact .inr ⟨hb, o2, c2, by simp, by simpa using hR.kept hks hbg⟩
  · rcases List.mem_append.1 ht with ht | ht
    · have h0 := h.rd.sents t (hin t ht) q hq
      exact ⟨h0.1.kept hS (n1 h0.2 (by decide) (by decide)), h0.2.kept hS (n1 h0.2 (by decide) (by decide))⟩
    · simp at ht; subst ht
      rcases List.mem_append.1 hq with hq | hq
      · have h0 := h.rd.sents s hs q hq
        exact ⟨h0.1.kept hS (n1 h0.2 (by decide) (by decide)), h0.2.kept hS (n1 h0.2 (by decide) (by decide))⟩
      · simp at hq; subst hq
        exact ⟨hp.1.kept hks hps, hp.2.kept hks hps⟩
  · have hap := h.apart
    rw [List.map_append, List.pairwise_append] at hap ⊢
    refine ⟨hap.1, by simp, fun a ha b hbm k e1 e2 => ?_⟩
    simp at hbm; subst hbm
    obtain ⟨t, ht, rfl⟩ := List.mem_map.1 ha
    simp [Value.ownBlock] at e2
    subst e2
    rcases hn with hn | hn
    · exact hpre t ht hb e1 hn
    · have := hlt t ht hb e1; omega
end
end Go.Proofs.YtminfmjgmmkaoaaGreatDoor
