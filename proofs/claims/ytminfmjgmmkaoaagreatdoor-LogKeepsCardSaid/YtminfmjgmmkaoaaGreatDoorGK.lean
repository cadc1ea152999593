/-
  The entry that a message makes: next.
-/
import Derived.Test.YtminfmjgmmkaoaaGreatDoorGJ
namespace Go.Proofs.YtminfmjgmmkaoaaGreatDoor
open Go.ChangeShapes Go.WideShapes Go.ChangeAt Go.Shelf Go.RowKit Go.Lib Go.Sort Go.Deep
set_option linter.unusedVariables false
set_option maxRecDepth 4000
set_option linter.unusedSimpArgs false

theorem infoMe : (Tryz.prog.info? 42).map (·.size) = some 7 := by kernel_rfl
theorem infoWo : (Tryz.prog.info? 26).map (·.size) = some 4 := by kernel_rfl
/-- A block's cells as a range. -/
theorem range_block {w : World} {g : Nat} {cs : Array Value} {T : TypeId} (h : w.heap[g]? = some (.cells cs T (0, 0))) : w.rangeAt g 0 cs.toList := fun j v hv => by
  rw [Nat.zero_add, cell_of_row w g j cs T (0, 0) h]
  simpa using hv
theorem range_below {w w' : World} {g o : Nat} {cs : List Value} (h : w.rangeAt g o cs) (hg : g < w.heap.size) (hb : Below w.heap.size w w') : w'.rangeAt g o cs := fun j v hv => by
  rw [hb.cell (p := ⟨g, o + j, none⟩) hg]
  exact h j v hv
theorem step_store_row {P : Program} {ops : Array Oper} {E : Prop} {o : Oper} {a : Act} {w : World} {K : Act → World → Prop} {Q : Exit → Act → World → Prop} (hgd : o.guard = none) (ty : TypeId) (x y : Operand) (ho : o.op = .store ty x y)
    (g : Nat) (cells : Array Value) (hx : a.eval x = .pointer (some ⟨g, 0, none⟩)) (hy : a.eval y = .agg cells)
    (t : TypeId) (old : Array Value) (hg : w.heap[g]? = some (.cells old t (0, 0))) (hi : (P.info? ty).map (·.size) = some cells.size)
    (hold : old.size = cells.size) (h1 : cells.all (·.oneCell') = true)
    (h : K (a.put o.dst undef) (w.setRow g cells)) : if Region.wanted o (yielded ops a.tmps) = true then Oper.wp P o a w K Q else E := by
  have hw : Region.wanted o (yielded ops a.tmps) = true := by simp [Region.wanted, hgd]
  rw [if_pos hw]
  exact wp_store_row ty x y ho g cells hx hy t old hg hi hold h1 h
theorem Ots.keptOff {S : Nat → Prop} {w w' : World} {a : Option Addr} {len cap : Nat} {os : List Ot} (h : Ots w a len cap os) (hk : KeptOff S w w') (hn : 0 < len → ∀ k, (Value.slice a len cap).ownBlock = some k → ¬ S k) : Ots w' a len cap os := by
  obtain ⟨h1, h2, h3, h4⟩ := h
  rcases Nat.eq_zero_or_pos len with h0 | h0
  · exact ⟨h1, h2, h3, .inl h0⟩
  have hn := hn h0
  refine ⟨h1, h2, h3, h4.imp id ?_⟩
  rintro ⟨b, off, ha, hm⟩
  subst ha
  refine ⟨b, off, rfl, fun i hi => ?_⟩
  obtain ⟨hlt, h0⟩ := hm i hi
  have e : ∀ o, w'.cell? ⟨b, o, none⟩ = w.cell? ⟨b, o, none⟩ := fun o => by simp [World.cell?, hk.block b hlt (hn b rfl)]
  unfold OtAt
  simp only [e]
  exact ⟨Nat.lt_of_lt_of_le hlt hk.size, h0⟩
theorem Ots.lt {w : World} {a : Option Addr} {len cap : Nat} {os : List Ot} (h : Ots w a len cap os) (h0 : 0 < len) : ∀ k, (Value.slice a len cap).ownBlock = some k → k < w.heap.size := by
  obtain ⟨h1, h2, h3, h4⟩ := h
  rcases h4 with h4 | ⟨b, off, rfl, hm⟩
  · omega
  · intro k hk
    simp [Value.ownBlock] at hk
    subst hk
    exact (hm 0 h0).1
theorem encMs_list (m : M) : ((encMs m).toArray).toList = encMs m := rfl
/-- The world and the state of a log's block. -/
def wordC (v : Wv) (W : Wd) : List Value := [.slice v.pa v.pl v.pc, .int .i64 W.self, .slice v.la v.ll v.lc, .int .u64 W.seed]
theorem Wv.val_eq (v : Wv) (W : Wd) : v.val W = .agg (wordC v W).toArray := rfl
theorem logC_world {w : World} {lb : Nat} {v : Wv} {W : Wd} {every len : Int} {sv : Value} {st : Sta} {stuck : Bool} (h : w.heap[lb]? = some (.cells (logC v W every sv len st stuck) 71 (0, 0))) : w.rangeAt lb 0 (wordC v W) := by
  intro j u hj
  have h0 := range_block h j u
  refine h0 ?_
  have hl : j < 4 := by have := (List.getElem?_eq_some_iff.1 hj).1; simpa [wordC] using this
  rcases (by omega : j = 0 ∨ j = 1 ∨ j = 2 ∨ j = 3) with rfl | rfl | rfl | rfl <;> exact hj
theorem logC_state {w : World} {lb : Nat} {v : Wv} {W : Wd} {every len : Int} {sv : Value} {st : Sta} {stuck : Bool} (h : w.heap[lb]? = some (.cells (logC v W every sv len st stuck) 71 (0, 0))) : w.rangeAt lb 7 (encSt st) := by
  intro j u hj
  have h0 := range_block h (7 + j) u
  rw [Nat.zero_add] at h0
  refine h0 ?_
  have hl : j < 10 := by have := (List.getElem?_eq_some_iff.1 hj).1; simpa [encSt] using this
  rcases (by omega : j = 0 ∨ j = 1 ∨ j = 2 ∨ j = 3 ∨ j = 4 ∨ j = 5 ∨ j = 6 ∨ j = 7 ∨ j = 8 ∨ j = 9) with rfl | rfl | rfl | rfl | rfl | rfl | rfl | rfl | rfl | rfl <;> exact hj
theorem encSt_one (s : Sta) : (encSt s).toArray.all (·.oneCell') = true := by simp [encSt, Value.oneCell']
theorem build_entry (m : M) (s : Sta) (f : Int) (a : Option Addr) (n c : Nat) (w : World) : (Instr.build 44 #[(0, .agg (encMs m).toArray), (1, .agg (encSt s).toArray), (2, .int .i64 f), (3, .slice a n c)]).run Tryz.prog w = .ok (.agg (encMs m ++ encSt s ++ [Value.int .i64 f, Value.slice a n c]).toArray) w := by kernel_rfl
theorem run_lateA {W : Wd} {st st2 : Sta} {m : M} {os : List Ot} {fl : Int} (hs : st.r.length = 8) (h : runW W st m = (st2, os, fl)) : Late W m.k.t os := by
  obtain ⟨r, d, n⟩ := st
  obtain ⟨r0, r1, r2, r3, r4, r5, r6, r7, rfl⟩ := eight hs
  rcases later_ways (W := W) (r0 := r0) (r1 := r1) (r2 := r2) (r3 := r3) (r4 := r4) (r5 := r5) (r6 := r6) (r7 := r7) (d := d) (n := n) (ev := m) with ⟨k, _, e⟩ | ⟨k, _, e⟩ | ⟨y0, y1, y2, y3, y4, y5, y6, y7, d', o, e, hl, _⟩
  · rw [e] at h; cases h; exact ⟨by simp, by simp⟩
  · rw [e] at h; cases h; exact ⟨by simp, by simp⟩
  · rw [e] at h; cases h; exact hl
theorem own_base {w : World} {b b' : Nat} {e : TypeId} {sz n : Nat} {v : Value} {xs : List Value} (h : w.ownsRow b e sz v n xs) (hb : b' ≤ b) : w.ownsRow b' e sz v n xs :=
  ⟨h.1, h.2.imp id (fun ⟨g, cap, cur, h1, h2, h3⟩ => ⟨g, cap, cur, h1, Nat.le_trans hb h2, h3⟩)⟩
theorem vmSends_op {w : World} {v : Wv} {W : Wd} {st : Sta} {m : M} {a : Option Addr} {len cap : Nat} {o : List Ot} (hs : st.r.length = 8) (hw : Wds w v W) (hO : Ots w a len cap o) (hl : Late W m.k.t o) (hcw : checkW W = 0) (hcm : chkM m = 0) (hmay : st.mayB = true) {un : Int} (hun : 0 ≤ un ∧ un ≤ 1125899906842624) :
    Calls Tryz.prog 44 #[v.val W, st.val, m.val, .slice a len cap, .int .i64 un] w fun e w' => ∃ a' cap', e = .returned (.slice a' len cap') ∧ Hid (w'.ownsRow w.heap.size 42 7 (.slice a' len cap') len (flatM (mgs W st.s m.k.t un o len)) ∧ Below w.heap.size w w') := by
  obtain ⟨r, d, n⟩ := st
  obtain ⟨r0, r1, r2, r3, r4, r5, r6, r7, rfl⟩ := eight hs
  obtain ⟨⟨t, f, q⟩, to', vv, u, an⟩ := m
  have hn : 0 ≤ d ∧ d ≤ 1125899906842624 ∧ 0 ≤ n ∧ n ≤ 1125899906842624 := by simpa [Sta.mayB] using hmay
  have hz := checkW_zero hcw
  have hll : v.ll = W.links.length := hw.2.1.1.symm
  refine (vmSends_own (u := u) (to' := to') (vv := vv) (an := an) hw hO hl (chkM_time hcm) hn.2.2 (by rw [hll]; exact hz.2.2) (fun j hj => checkW_looks hcw j (by rw [← hll]; exact hj)) hun).mono ?_
  rintro e w' ⟨a', cap', rfl, hq⟩
  exact ⟨a', cap', rfl, own_base hq.out.1 (by omega), hq.out.2⟩
theorem mgs_row {w : World} {g n cap : Nat} {ms : List M} (h : RowIn w 42 7 g 0 n cap (flatM ms)) : Mgs w (some ⟨g, 0, none⟩) n cap ms := by
  have hb := h.bounds
  have hl : ms.length = n := by have := hb.2.2; rw [flatM_length] at this; omega
  exact ⟨hl, hb.1, hb.2.1, .inr ⟨g, 0, rfl, fun k hk => by rw [Nat.zero_add]; exact msgAt_row h k (by omega)⟩⟩
set_option maxHeartbeats 2000000 in
theorem lgName_nil {w : World} {kv : Value} {uid : Int} : Calls Tryz.prog 45 #[.slice none 0 0, kv, .int .i64 uid] w fun e w' => e = .returned (.tuple #[]) ∧ w = w' := by
  go_enter Tryz.func45, Tryz.ntmps45
  go_wp2_with fail
  go_loopw [2, 11] (fun ui i wr => i = .int .i64 0 ∧ w = wr) (fun _ i _ => 0)
  case atStart => exact ⟨rfl, rfl⟩
  case round =>
    obtain ⟨rfl, rfl⟩ := hrel
    go_wp2
    go_end0
    exact ⟨rfl, rfl⟩
/-- What name leaves of a slice of the call's own. -/
theorem lgName_own {w : World} {base n c kn kc : Nat} {a ka : Option Addr} {ms kept : List M} {uid : Int} (h : w.ownsRow base 42 7 (.slice a n c) n (flatM ms)) (hK : Mgs w ka kn kc kept) (hne : ∀ k, (Value.slice ka kn kc).ownBlock = some k → k < base) (hu : 0 ≤ uid ∧ uid ≤ 1125899906842624) (hn : n ≤ 16384) :
    Calls Tryz.prog 45 #[.slice a n c, .slice ka kn kc, .int .i64 uid] w fun e w' => e = .returned (.tuple #[]) ∧ Hid (Mgs w' a n c (nameL kept ms uid) ∧ KeptOff (fun k => (Value.slice a n c).ownBlock = some k) w w') := by
  rcases h.2 with ⟨h0, h1⟩ | ⟨g, cap, cur, h0, hb, _⟩
  · cases h0
    refine lgName_nil.mono ?_
    rintro e w' ⟨rfl, rfl⟩
    have : ms = [] := List.eq_nil_of_length_eq_zero (by have := h.1; rw [flatM_length] at this; omega)
    subst this
    exact ⟨rfl, ⟨rfl, Nat.le_refl _, by unfold maxLen; omega, .inl rfl⟩, KeptOff.refl _ _⟩
  · cases h0
    refine (lgName_any (RowIn.of_own h) hK (fun k e => by have := hne k e; omega) hu hn).mono ?_
    rintro e w' ⟨rfl, hq⟩
    exact ⟨rfl, mgs_row hq.out.1, hq.out.2.mono (fun k _ e => by rw [e]; rfl)⟩
theorem yieldsIf_build {P : Program} {ops : Array Oper} {S : World → Prop} {o : Oper} {a : Act} {v : Value} (hw : Region.wanted o (yielded ops a.tmps) = true) (t : TypeId) (parts : Array (Nat × Operand)) (ho : o.op = .build t parts) (vals : Array (Nat × Value))
    (hv : parts.map (fun (i, x) => (i, a.eval x)) = vals) (hb : ∀ w, (Instr.build t vals).run P w = .ok v w) : YieldsIf P ops S o v a :=
  .inl ⟨hw, fun w _ => by
    unfold execOp
    simp only [ho, hv]
    simp [hb w, Result.andThen]⟩
/-- What next leaves: the entry, the state behind it. -/
def NextR (w : World) (st : Sta) (m : M) (uid : Int) (kept : List M) (r : Sta × List Ot × Int) (W : Wd) (x : Ending) (w' : World) : Prop :=
  ∃ sa sc, x = .returned (.tuple #[.agg (entC m st r.2.2 (.slice sa r.2.1.length sc)).toArray, .agg (encSt r.1).toArray, .int .i64 0]) ∧ Hid (Mgs w' sa r.2.1.length sc (nameL kept (mgs W st.s m.k.t uid r.2.1 r.2.1.length) uid) ∧ Below w.heap.size w w' ∧ ∀ k, (Value.slice sa r.2.1.length sc).ownBlock = some k → w.heap.size ≤ k)
set_option maxHeartbeats 8000000 in
theorem lgNext_ok {w : World} {lb : Nat} {m : M} {uid every len : Int} {v : Wv} {W : Wd} {sv : Value} {st : Sta} {stuck : Bool} {eb : Addr} (hr : ∀ w', Below w.heap.size w w' → Calls Tryz.prog 42 #[.pointer (some ⟨lb, 0, none⟩), m.val, .int .i64 uid] w' fun x w2 => x = .returned (.int .i64 0) ∧ Below w'.heap.size w' w2)
    (hrow : w.heap[lb]? = some (.cells (logC v W every sv len st stuck) 71 (0, 0))) (hW : Wds w v W) (hE : ErrIs w eb) (hT : ErrT w) (hst : StaOk st) (hev : In64 m.v) (hcw : checkW W = 0) (hcm : chkM m = 0) (hmay : st.mayB = true) (hu : 0 ≤ uid ∧ uid ≤ 1125899906842624) {ka : Option Addr} {kn kc : Nat} {kept : List M} (hK : Mgs w ka kn kc kept) (hKl : ∀ k, (Value.slice ka kn kc).ownBlock = some k → k < w.heap.size) :
    Calls Tryz.prog 30 #[.pointer (some ⟨lb, 0, none⟩), m.val, .int .i64 uid, .slice ka kn kc] w (NextR w st m uid kept (runW W st m) W) := by
  have hlbl : lb < w.heap.size := (Array.getElem?_eq_some_iff.1 hrow).1
  have hr' := fun (o1 o2 o3 : Obj) => hr _ (Tri.mk3 w o1 o2 o3).b
  have F0 := Tri.mk3 w (.cells (encMs m).toArray 42) (.cells z19 44) (.cells z10 34)
  have hL := fun (o1 o2 : Obj) => range_block (Tri.mk3 w (.cells (encMs m).toArray 42) o1 o2).a
  have hvr := Lib.hid (fun (w' : World) (hb : Below w.heap.size w w') => vmRun_new (hW.below hb) (hE.below hb) (hT.below hb) hst.len hst.reg hev)
  have hcw0 := Lib.hid (fun (w' : World) (hb : Below w.heap.size w w') => range_below (logC_world hrow) hlbl hb)
  have hcst0 := Lib.hid (fun (w' : World) (hb : Below w.heap.size w w') => range_below (logC_state hrow) hlbl hb)
  have hok2 := runW_ok (W := W) hst hev
  have hlt8 : Late W m.k.t (runW W st m).2.1 := run_lateA (W := W) (m := m) (st2 := (runW W st m).1) (fl := (runW W st m).2.2) hst.len rfl
  have hsd := Lib.hid (fun (w' : World) (hb : Below w.heap.size w w') (a : Option Addr) (len cap : Nat) (o : List Ot) (hO : Ots w' a len cap o) (hl : Late W m.k.t o) => vmSends_op hst.len (hW.below hb) hO hl hcw hcm hmay hu)
  have hbd := Lib.hid (fun (f : Int) (a : Option Addr) (n c : Nat) (w : World) => build_entry m st f a n c w)
  have hK' := Lib.hid hK
  have hKl' := Lib.hid hKl
  have hone19 : Hid (∀ (f : Int) (a : Option Addr) (n c : Nat), (encMs m ++ encSt st ++ [Value.int .i64 f, Value.slice a n c]).toArray.all (·.oneCell') = true) := Lib.hid (fun f a n c => by simp [encMs, encSt, Value.oneCell'])
  simp only [M.val_eq, Wv.val_eq, Sta.val_eq hst.len] at hr' hvr hsd ⊢
  unfold NextR entC
  simp only [encMs_list] at hL
  have hlm : (encMs m).length = 7 := rfl
  have hlw : (wordC v W).length = 4 := rfl
  have hls : (encSt st).length = 10 := rfl
  generalize encMs m = cm at *
  generalize wordC v W = cw at *
  generalize encSt st = cst at *
  obtain ⟨⟨st2, os, fl⟩, hres⟩ : ∃ r, runW W st m = r := ⟨_, rfl⟩
  rw [hres] at hvr hok2 hlt8 ⊢
  simp only at hvr hok2 hlt8 ⊢
  have hlt' := Lib.hid hlt8
  have hL' := Lib.hid hL
  have hst2 := Lib.hid hok2
  clear hL hrow hW hE hT hst hev hr hok2 hlt8 hcw hcm hmay hK hKl
  go_enter Tryz.func30, Tryz.ntmps30
  go_upto_region 4 with (first
    | (refine wpList_load_mid rfl 42 (.tmp 5) rfl w.heap.size 0 rfl cm _ (hL'.out _ _) Tryz.underlying42 rfl (by rw [hlm]; exact infoMe) ?_)
    | (go_at_call 42; refine (hr' _ _ _).mono ?_; rintro x w2 ⟨rfl, hb2⟩))
  have F := Lib.hid (F0.below (hb2.mono (by simp)))
  have hcm : Hid (∀ w', Below w2.heap.size w2 w' → w'.rangeAt w.heap.size 0 cm) := Lib.hid (fun w' hb => range_below (range_block F.out.a) (by have := F.out.sz; omega) hb)
  have hcw : Hid (∀ w', Below w2.heap.size w2 w' → w'.rangeAt lb 0 cw) := Lib.hid (fun w' hb => hcw0.out _ (F.out.b.trans (hb.mono F.out.b.size)))
  have hcst : Hid (∀ w', Below w2.heap.size w2 w' → w'.rangeAt lb 7 cst) := Lib.hid (fun w' hb => hcst0.out _ (F.out.b.trans (hb.mono F.out.b.size)))
  have hrun : ∀ w', Below w2.heap.size w2 w' → Calls Tryz.prog 43 #[.agg cw.toArray, .agg cst.toArray, .agg cm.toArray] w' fun x w3 => ∃ sa sc, x = .returned (.tuple #[.agg (encSt st2).toArray, .slice sa os.length sc, .int .i64 fl]) ∧ Hid (Ots w3 sa os.length sc os ∧ Below w'.heap.size w' w3 ∧ ∀ k, (Value.slice sa os.length sc).ownBlock = some k → w'.heap.size ≤ k) := fun w' hb =>
    (hvr.out _ (F.out.b.trans (hb.mono F.out.b.size))).mono fun x w3 ⟨a, c, h1, h2, h3, h4⟩ => ⟨a, c, by rw [h1, Sta.val_eq hst2.out.len], h2, h3, h4⟩
  have hls2 : (encSt st2).length = 10 := rfl
  have hone2 := encSt_one st2
  generalize hce : encSt st2 = cst2 at *
  have hce' := Lib.hid hce
  clear hce
  clear F0 hb2 hr' hL'
  go_cut [12, 13, 14] from 25 to 38 (fun b12 o13 c14 wx => ∃ (X : Nat) (sa : Option Addr) (sc : Nat), b12 = .pointer (some ⟨X, 0, none⟩) ∧ o13 = .slice sa os.length sc ∧ c14 = .int .i64 fl ∧ Hid (Below w2.heap.size w2 wx ∧ w2.heap.size ≤ X ∧ wx.heap[X]? = some (.cells cst2.toArray 34 (0, 0)) ∧ Ots wx sa os.length sc os))
  case first =>
    refine wp_region_held_drew (S := fun w' => Below w2.heap.size w2 w') (by kernel_rfl) (Below.refl _ w2).drew (fun hHeld => ?_)
    clear hHeld
    have hHd : Below w2.heap.size w2 w2.drew := (Below.refl _ w2).drew
    refine wpAnyH_take (i := 0) (oi := { dst := some 26, op := Op.move (Operand.tmp 0), type := 28, pos := "log.go:73", after := #[], guard := none }) (v := ?vv0_1) rfl (by kernel_rfl) (by kernel_rfl) (by kernel_rfl) (fun _ _ _ h => h) (Or.inl ⟨by rfl, ?hy0_1⟩) hHd ?rest0_1
    case hy0_1 =>
      intro w hSw
      go_simp
      try with_reducible rfl
    try simp only [Act.put, List.setIfInBounds_toArray, List.set_cons_zero, List.set_cons_succ]
    refine wpAnyH_take (i := 1) (oi := { dst := some 27, op := Op.nilCheck (Operand.tmp 26), type := 0, pos := "log.go:73", after := #[{ on := 0, ground := Ground.data }], guard := none }) (v := ?vv1_2) rfl (by kernel_rfl) (by kernel_rfl) (by kernel_rfl) (fun _ _ _ h => h) (Or.inl ⟨by rfl, ?hy1_2⟩) hHd ?rest1_2
    case hy1_2 =>
      intro w hSw
      go_simp
      try with_reducible rfl
    try simp only [Act.put, List.setIfInBounds_toArray, List.set_cons_zero, List.set_cons_succ]
    refine wpAnyH_take (i := 2) (oi := { dst := some 28, op := Op.fieldAddr 71 (Operand.tmp 27) 0, type := 0, pos := "log.go:73", after := #[{ on := 1, ground := Ground.data }], guard := none }) (v := ?vv2_3) rfl (by kernel_rfl) (by kernel_rfl) (by kernel_rfl) (fun _ _ _ h => h) (Or.inl ⟨by rfl, ?hy2_3⟩) hHd ?rest2_3
    case hy2_3 =>
      intro w hSw
      go_simp
      try with_reducible rfl
    try simp only [Act.put, List.setIfInBounds_toArray, List.set_cons_zero, List.set_cons_succ]
    refine wpAnyH_take (i := 3) (oi := { dst := some 29, op := Op.load 26 (Operand.tmp 28), type := 26, pos := "log.go:73", after := #[{ on := 2, ground := Ground.data }], guard := none }) (v := .agg (cw).toArray) rfl (by kernel_rfl) (by kernel_rfl) (by kernel_rfl) (fun _ _ _ h => h) (yieldsIf_load_mid (by rfl) 26 (.tmp 28) (by rfl) lb 0 (by rfl) (cw) _ (fun w' h => hcw.out w' h) Tryz.underlying26 rfl (by rw [hlw]; exact infoWo)) hHd ?_
    try simp only [Act.put, List.setIfInBounds_toArray, List.set_cons_zero, List.set_cons_succ]
    refine wpAnyH_take (i := 4) (oi := { dst := some 30, op := Op.move (Operand.tmp 0), type := 28, pos := "log.go:73", after := #[], guard := none }) (v := ?vv4_4) rfl (by kernel_rfl) (by kernel_rfl) (by kernel_rfl) (fun _ _ _ h => h) (Or.inl ⟨by rfl, ?hy4_4⟩) hHd ?rest4_4
    case hy4_4 =>
      intro w hSw
      go_simp
      try with_reducible rfl
    try simp only [Act.put, List.setIfInBounds_toArray, List.set_cons_zero, List.set_cons_succ]
    refine wpAnyH_take (i := 5) (oi := { dst := some 31, op := Op.nilCheck (Operand.tmp 30), type := 0, pos := "log.go:73", after := #[{ on := 4, ground := Ground.data }], guard := none }) (v := ?vv5_5) rfl (by kernel_rfl) (by kernel_rfl) (by kernel_rfl) (fun _ _ _ h => h) (Or.inl ⟨by rfl, ?hy5_5⟩) hHd ?rest5_5
    case hy5_5 =>
      intro w hSw
      go_simp
      try with_reducible rfl
    try simp only [Act.put, List.setIfInBounds_toArray, List.set_cons_zero, List.set_cons_succ]
    refine wpAnyH_take (i := 6) (oi := { dst := some 32, op := Op.fieldAddr 71 (Operand.tmp 31) 4, type := 0, pos := "log.go:73", after := #[{ on := 5, ground := Ground.data }], guard := none }) (v := ?vv6_6) rfl (by kernel_rfl) (by kernel_rfl) (by kernel_rfl) (fun _ _ _ h => h) (Or.inl ⟨by rfl, ?hy6_6⟩) hHd ?rest6_6
    case hy6_6 =>
      intro w hSw
      go_simp
      try with_reducible rfl
    try simp only [Act.put, List.setIfInBounds_toArray, List.set_cons_zero, List.set_cons_succ]
    refine wpAnyH_take (i := 7) (oi := { dst := some 33, op := Op.load 34 (Operand.tmp 32), type := 34, pos := "log.go:73", after := #[{ on := 6, ground := Ground.data }], guard := none }) (v := .agg (cst).toArray) rfl (by kernel_rfl) (by kernel_rfl) (by kernel_rfl) (fun _ _ _ h => h) (yieldsIf_load_mid (by rfl) 34 (.tmp 32) (by rfl) lb 7 (by rfl) (cst) _ (fun w' h => hcst.out w' h) Tryz.underlying34 rfl (by rw [hls]; exact infoS10)) hHd ?_
    try simp only [Act.put, List.setIfInBounds_toArray, List.set_cons_zero, List.set_cons_succ]
    refine wpAnyH_take (i := 8) (oi := { dst := some 34, op := Op.load 42 (Operand.tmp 5), type := 42, pos := "log.go:73", after := #[], guard := none }) (v := .agg (cm).toArray) rfl (by kernel_rfl) (by kernel_rfl) (by kernel_rfl) (fun _ _ _ h => h) (yieldsIf_load_mid (by rfl) 42 (.tmp 5) (by rfl) w.heap.size 0 (by rfl) (cm) _ (fun w' h => hcm.out w' h) Tryz.underlying42 rfl (by rw [hlm]; exact infoMe)) hHd ?_
    try simp only [Act.put, List.setIfInBounds_toArray, List.set_cons_zero, List.set_cons_succ]
    refine wpAnyH_ready (rs := [9, 14]) (by kernel_rfl) (by simp) ?_
    refine AllReadyH.cons (o := { dst := some 35, op := Op.call { callee := Callee.value (Operand.func 43), args := #[Operand.tmp 29, Operand.tmp 33, Operand.tmp 34], argTypes := #[26, 34, 42] }, type := 93, pos := "log.go:73", after := #[{ on := 3, ground := Ground.data }, { on := 7, ground := Ground.data }, { on := 8, ground := Ground.data }], guard := none }) rfl (fun K hK => ?_) ?_
    · skip
      go_simp
      refine (hrun _ hHd).mono ?_
      rintro x w3 ⟨sa, sc, rfl, hq3⟩
      have hHw := hHd.trans (hq3.out.2.1.mono hHd.size)
      refine hK.out _ _ hHw (fun hHeld => ?_)
      clear hHeld hK K
      try simp only [Act.put, List.setIfInBounds_toArray, List.set_cons_zero, List.set_cons_succ]
      refine wpAnyH_take (i := 10) (oi := { dst := some 25, op := Op.move (Operand.tmp 35), type := 93, pos := "log.go:73", after := #[{ on := 9, ground := Ground.data }], guard := none }) (v := ?vv10_7) rfl (by kernel_rfl) (by kernel_rfl) (by kernel_rfl) (fun _ _ _ h => h) (Or.inl ⟨by rfl, ?hy10_7⟩) hHw ?rest10_7
      case hy10_7 =>
        intro w hSw
        go_simp
        try with_reducible rfl
      try simp only [Act.put, List.setIfInBounds_toArray, List.set_cons_zero, List.set_cons_succ]
      refine wpAnyH_take (i := 11) (oi := { dst := some 36, op := Op.extract (Operand.tmp 25) 0, type := 34, pos := "log.go:73", after := #[{ on := 10, ground := Ground.data }], guard := none }) (v := ?vv11_8) rfl (by kernel_rfl) (by kernel_rfl) (by kernel_rfl) (fun _ _ _ h => h) (Or.inl ⟨by rfl, ?hy11_8⟩) hHw ?rest11_8
      case hy11_8 =>
        intro w hSw
        go_simp
        try with_reducible rfl
      try simp only [Act.put, List.setIfInBounds_toArray, List.set_cons_zero, List.set_cons_succ]
      refine wpAnyH_take (i := 12) (oi := { dst := some 37, op := Op.extract (Operand.tmp 25) 1, type := 92, pos := "log.go:73", after := #[{ on := 10, ground := Ground.data }, { on := 15, ground := Ground.gcOnly Departure.lateStores }], guard := none }) (v := ?vv12_9) rfl (by kernel_rfl) (by kernel_rfl) (by kernel_rfl) (fun _ _ _ h => h) (Or.inl ⟨by rfl, ?hy12_9⟩) hHw ?rest12_9
      case hy12_9 =>
        intro w hSw
        go_simp
        try with_reducible rfl
      try simp only [Act.put, List.setIfInBounds_toArray, List.set_cons_zero, List.set_cons_succ]
      refine wpAnyH_take (i := 13) (oi := { dst := some 38, op := Op.extract (Operand.tmp 25) 2, type := 29, pos := "log.go:73", after := #[{ on := 10, ground := Ground.data }, { on := 16, ground := Ground.gcOnly Departure.lateStores }], guard := none }) (v := ?vv13_10) rfl (by kernel_rfl) (by kernel_rfl) (by kernel_rfl) (fun _ _ _ h => h) (Or.inl ⟨by rfl, ?hy13_10⟩) hHw ?rest13_10
      case hy13_10 =>
        intro w hSw
        go_simp
        try with_reducible rfl
      try simp only [Act.put, List.setIfInBounds_toArray, List.set_cons_zero, List.set_cons_succ]
      refine wpAnyH_ready (rs := [14]) (by kernel_rfl) (by simp) ?_
      refine AllReadyH.cons (o := { dst := some 12, op := Op.alloc 34, type := 0, pos := "log.go:73", after := #[], guard := none }) rfl (fun K hK => ?_) AllReadyH.nil
      go_simp
      refine hK.out _ _ (hHw.alloc hHw.size (.cells z10 34)) (fun hHeld => ?_)
      clear hHeld hK K
      try simp only [Act.put, List.setIfInBounds_toArray, List.set_cons_zero, List.set_cons_succ]
      have hbx := heap_alloc_new w3 (.cells z10 34)
      have hXge := hHw.size
      have hXo : 0 < os.length → ∀ k, (Value.slice sa os.length sc).ownBlock = some k → k ≠ w3.heap.size := fun h0 k e => by have := hq3.out.1.lt h0 k e; omega
      have hots := hq3.out.1.below ((Below.refl _ w3).alloc (Nat.le_refl _) (.cells z10 34))
      replace hHw := hHw.alloc hHw.size (.cells z10 34)
      simp only [z10] at hbx hots hHw
      refine wpAnyH_ready (rs := [15]) (by kernel_rfl) (by simp) ?_
      refine AllReadyH.cons (o := { dst := none, op := Op.store 34 (Operand.tmp 12) (Operand.tmp 36), type := 0, pos := "log.go:73", after := #[{ on := 14, ground := Ground.data }, { on := 11, ground := Ground.data }, { on := 9, ground := Ground.chain }, { on := 0, ground := Ground.phase }, { on := 1, ground := Ground.phase }, { on := 2, ground := Ground.phase }, { on := 3, ground := Ground.phase }, { on := 4, ground := Ground.phase }, { on := 5, ground := Ground.phase }, { on := 6, ground := Ground.phase }, { on := 7, ground := Ground.phase }, { on := 8, ground := Ground.phase }, { on := 9, ground := Ground.phase }, { on := 10, ground := Ground.phase }, { on := 11, ground := Ground.phase }, { on := 12, ground := Ground.textOnly Departure.lateStores }, { on := 13, ground := Ground.textOnly Departure.lateStores }, { on := 14, ground := Ground.phase }], guard := none }) rfl (fun K hK => ?_) AllReadyH.nil
      refine step_store_row rfl 34 (.tmp 12) (.tmp 36) (by rfl) (w3.heap.size) cst2.toArray (by rfl) (by rfl) 34 z10 hbx (by simp only [List.size_toArray, hls2]; exact infoS10) (by simp only [List.size_toArray, hls2]; rfl) hone2 ?_
      refine hK.out _ _ (below_row hHw (g := w3.heap.size) hXge cst2.toArray) (fun hHeld => ?_)
      clear hHeld hK K
      try simp only [Act.put, List.setIfInBounds_toArray, List.set_cons_zero, List.set_cons_succ]
      have hHs := below_row hHw (g := w3.heap.size) hXge cst2.toArray
      refine wpAnyH_take (i := 16) (oi := { dst := some 13, op := Op.assign (Operand.tmp 37), type := 92, pos := "log.go:73", after := #[{ on := 12, ground := Ground.data }, { on := 15, ground := Ground.chain }, { on := 0, ground := Ground.phase }, { on := 1, ground := Ground.phase }, { on := 2, ground := Ground.phase }, { on := 3, ground := Ground.phase }, { on := 4, ground := Ground.phase }, { on := 5, ground := Ground.phase }, { on := 6, ground := Ground.phase }, { on := 7, ground := Ground.phase }, { on := 8, ground := Ground.phase }, { on := 9, ground := Ground.phase }, { on := 10, ground := Ground.phase }, { on := 11, ground := Ground.phase }, { on := 12, ground := Ground.phase }, { on := 13, ground := Ground.textOnly Departure.lateStores }, { on := 14, ground := Ground.phase }, { on := 15, ground := Ground.phase }], guard := none }) (v := ?vv16_11) rfl (by kernel_rfl) (by kernel_rfl) (by kernel_rfl) (fun _ _ _ h => h) (Or.inl ⟨by rfl, ?hy16_11⟩) hHs ?rest16_11
      case hy16_11 =>
        intro w hSw
        go_simp
        try with_reducible rfl
      try simp only [Act.put, List.setIfInBounds_toArray, List.set_cons_zero, List.set_cons_succ]
      refine wpAnyH_take (i := 17) (oi := { dst := some 14, op := Op.assign (Operand.tmp 38), type := 29, pos := "log.go:73", after := #[{ on := 13, ground := Ground.data }, { on := 16, ground := Ground.chain }, { on := 0, ground := Ground.phase }, { on := 1, ground := Ground.phase }, { on := 2, ground := Ground.phase }, { on := 3, ground := Ground.phase }, { on := 4, ground := Ground.phase }, { on := 5, ground := Ground.phase }, { on := 6, ground := Ground.phase }, { on := 7, ground := Ground.phase }, { on := 8, ground := Ground.phase }, { on := 9, ground := Ground.phase }, { on := 10, ground := Ground.phase }, { on := 11, ground := Ground.phase }, { on := 12, ground := Ground.phase }, { on := 13, ground := Ground.phase }, { on := 14, ground := Ground.phase }, { on := 15, ground := Ground.phase }, { on := 16, ground := Ground.phase }], guard := none }) (v := ?vv17_12) rfl (by kernel_rfl) (by kernel_rfl) (by kernel_rfl) (fun _ _ _ h => h) (Or.inl ⟨by rfl, ?hy17_12⟩) hHs ?rest17_12
      case hy17_12 =>
        intro w hSw
        go_simp
        try with_reducible rfl
      try simp only [Act.put, List.setIfInBounds_toArray, List.set_cons_zero, List.set_cons_succ]
      refine wpAnyH_done (by kernel_rfl) ?_ _
      go_wp2_with fail
      go_meet
      case rel => exact ⟨w3.heap.size, sa, sc, rfl, rfl, rfl, Lib.hid ⟨hHs, hXge, setRow_heap (new := cst2.toArray) hbx, hots.keptOff (KeptOff.row _ _ _) hXo⟩⟩
    refine AllReadyH.cons (o := { dst := some 12, op := Op.alloc 34, type := 0, pos := "log.go:73", after := #[], guard := none }) rfl (fun K hK => ?_) AllReadyH.nil
    go_simp
    refine hK.out _ _ (hHd.alloc hHd.size _) (fun hHeld => ?_)
    clear hHeld hK K
    try simp only [Act.put, List.setIfInBounds_toArray, List.set_cons_zero, List.set_cons_succ]
    have hHa := hHd.alloc hHd.size (.cells z10 34)
    have hbx0 := heap_alloc_new w2.drew (.cells z10 34)
    simp only [z10] at hHa hbx0
    refine wpAnyH_ready (rs := [9]) (by kernel_rfl) (by simp) ?_
    refine AllReadyH.cons (o := { dst := some 35, op := Op.call { callee := Callee.value (Operand.func 43), args := #[Operand.tmp 29, Operand.tmp 33, Operand.tmp 34], argTypes := #[26, 34, 42] }, type := 93, pos := "log.go:73", after := #[{ on := 3, ground := Ground.data }, { on := 7, ground := Ground.data }, { on := 8, ground := Ground.data }], guard := none }) rfl (fun K hK => ?_) AllReadyH.nil
    go_simp
    refine (hrun _ hHa).mono ?_
    rintro x w3 ⟨sa, sc, rfl, hq3⟩
    have hHw := hHa.trans (hq3.out.2.1.mono hHa.size)
    refine hK.out _ _ hHw (fun hHeld => ?_)
    clear hHeld hK K
    try simp only [Act.put, List.setIfInBounds_toArray, List.set_cons_zero, List.set_cons_succ]
    refine wpAnyH_take (i := 10) (oi := { dst := some 25, op := Op.move (Operand.tmp 35), type := 93, pos := "log.go:73", after := #[{ on := 9, ground := Ground.data }], guard := none }) (v := ?vv10_13) rfl (by kernel_rfl) (by kernel_rfl) (by kernel_rfl) (fun _ _ _ h => h) (Or.inl ⟨by rfl, ?hy10_13⟩) hHw ?rest10_13
    case hy10_13 =>
      intro w hSw
      go_simp
      try with_reducible rfl
    try simp only [Act.put, List.setIfInBounds_toArray, List.set_cons_zero, List.set_cons_succ]
    refine wpAnyH_take (i := 11) (oi := { dst := some 36, op := Op.extract (Operand.tmp 25) 0, type := 34, pos := "log.go:73", after := #[{ on := 10, ground := Ground.data }], guard := none }) (v := ?vv11_14) rfl (by kernel_rfl) (by kernel_rfl) (by kernel_rfl) (fun _ _ _ h => h) (Or.inl ⟨by rfl, ?hy11_14⟩) hHw ?rest11_14
    case hy11_14 =>
      intro w hSw
      go_simp
      try with_reducible rfl
    try simp only [Act.put, List.setIfInBounds_toArray, List.set_cons_zero, List.set_cons_succ]
    refine wpAnyH_take (i := 12) (oi := { dst := some 37, op := Op.extract (Operand.tmp 25) 1, type := 92, pos := "log.go:73", after := #[{ on := 10, ground := Ground.data }, { on := 15, ground := Ground.gcOnly Departure.lateStores }], guard := none }) (v := ?vv12_15) rfl (by kernel_rfl) (by kernel_rfl) (by kernel_rfl) (fun _ _ _ h => h) (Or.inl ⟨by rfl, ?hy12_15⟩) hHw ?rest12_15
    case hy12_15 =>
      intro w hSw
      go_simp
      try with_reducible rfl
    try simp only [Act.put, List.setIfInBounds_toArray, List.set_cons_zero, List.set_cons_succ]
    refine wpAnyH_take (i := 13) (oi := { dst := some 38, op := Op.extract (Operand.tmp 25) 2, type := 29, pos := "log.go:73", after := #[{ on := 10, ground := Ground.data }, { on := 16, ground := Ground.gcOnly Departure.lateStores }], guard := none }) (v := ?vv13_16) rfl (by kernel_rfl) (by kernel_rfl) (by kernel_rfl) (fun _ _ _ h => h) (Or.inl ⟨by rfl, ?hy13_16⟩) hHw ?rest13_16
    case hy13_16 =>
      intro w hSw
      go_simp
      try with_reducible rfl
    try simp only [Act.put, List.setIfInBounds_toArray, List.set_cons_zero, List.set_cons_succ]
    have hlX : w2.heap.size < (w2.drew.alloc (.cells z10 34)).heap.size := by simp
    simp only [z10] at hlX
    have hbx := (hq3.out.2.1.block _ hlX).trans hbx0
    have hXge := Nat.le_refl w2.heap.size
    have hots := hq3.out.1
    have hXo : 0 < os.length → ∀ k, (Value.slice sa os.length sc).ownBlock = some k → k ≠ w2.heap.size := fun h0 k e => by have := hq3.out.2.2 k e; simp at this; omega
    refine wpAnyH_ready (rs := [15]) (by kernel_rfl) (by simp) ?_
    refine AllReadyH.cons (o := { dst := none, op := Op.store 34 (Operand.tmp 12) (Operand.tmp 36), type := 0, pos := "log.go:73", after := #[{ on := 14, ground := Ground.data }, { on := 11, ground := Ground.data }, { on := 9, ground := Ground.chain }, { on := 0, ground := Ground.phase }, { on := 1, ground := Ground.phase }, { on := 2, ground := Ground.phase }, { on := 3, ground := Ground.phase }, { on := 4, ground := Ground.phase }, { on := 5, ground := Ground.phase }, { on := 6, ground := Ground.phase }, { on := 7, ground := Ground.phase }, { on := 8, ground := Ground.phase }, { on := 9, ground := Ground.phase }, { on := 10, ground := Ground.phase }, { on := 11, ground := Ground.phase }, { on := 12, ground := Ground.textOnly Departure.lateStores }, { on := 13, ground := Ground.textOnly Departure.lateStores }, { on := 14, ground := Ground.phase }], guard := none }) rfl (fun K hK => ?_) AllReadyH.nil
    refine step_store_row rfl 34 (.tmp 12) (.tmp 36) (by rfl) (w2.heap.size) cst2.toArray (by rfl) (by rfl) 34 z10 hbx (by simp only [List.size_toArray, hls2]; exact infoS10) (by simp only [List.size_toArray, hls2]; rfl) hone2 ?_
    refine hK.out _ _ (below_row hHw (g := w2.heap.size) hXge cst2.toArray) (fun hHeld => ?_)
    clear hHeld hK K
    try simp only [Act.put, List.setIfInBounds_toArray, List.set_cons_zero, List.set_cons_succ]
    have hHs := below_row hHw (g := w2.heap.size) hXge cst2.toArray
    refine wpAnyH_take (i := 16) (oi := { dst := some 13, op := Op.assign (Operand.tmp 37), type := 92, pos := "log.go:73", after := #[{ on := 12, ground := Ground.data }, { on := 15, ground := Ground.chain }, { on := 0, ground := Ground.phase }, { on := 1, ground := Ground.phase }, { on := 2, ground := Ground.phase }, { on := 3, ground := Ground.phase }, { on := 4, ground := Ground.phase }, { on := 5, ground := Ground.phase }, { on := 6, ground := Ground.phase }, { on := 7, ground := Ground.phase }, { on := 8, ground := Ground.phase }, { on := 9, ground := Ground.phase }, { on := 10, ground := Ground.phase }, { on := 11, ground := Ground.phase }, { on := 12, ground := Ground.phase }, { on := 13, ground := Ground.textOnly Departure.lateStores }, { on := 14, ground := Ground.phase }, { on := 15, ground := Ground.phase }], guard := none }) (v := ?vv16_17) rfl (by kernel_rfl) (by kernel_rfl) (by kernel_rfl) (fun _ _ _ h => h) (Or.inl ⟨by rfl, ?hy16_17⟩) hHs ?rest16_17
    case hy16_17 =>
      intro w hSw
      go_simp
      try with_reducible rfl
    try simp only [Act.put, List.setIfInBounds_toArray, List.set_cons_zero, List.set_cons_succ]
    refine wpAnyH_take (i := 17) (oi := { dst := some 14, op := Op.assign (Operand.tmp 38), type := 29, pos := "log.go:73", after := #[{ on := 13, ground := Ground.data }, { on := 16, ground := Ground.chain }, { on := 0, ground := Ground.phase }, { on := 1, ground := Ground.phase }, { on := 2, ground := Ground.phase }, { on := 3, ground := Ground.phase }, { on := 4, ground := Ground.phase }, { on := 5, ground := Ground.phase }, { on := 6, ground := Ground.phase }, { on := 7, ground := Ground.phase }, { on := 8, ground := Ground.phase }, { on := 9, ground := Ground.phase }, { on := 10, ground := Ground.phase }, { on := 11, ground := Ground.phase }, { on := 12, ground := Ground.phase }, { on := 13, ground := Ground.phase }, { on := 14, ground := Ground.phase }, { on := 15, ground := Ground.phase }, { on := 16, ground := Ground.phase }], guard := none }) (v := ?vv17_18) rfl (by kernel_rfl) (by kernel_rfl) (by kernel_rfl) (fun _ _ _ h => h) (Or.inl ⟨by rfl, ?hy17_18⟩) hHs ?rest17_18
    case hy17_18 =>
      intro w hSw
      go_simp
      try with_reducible rfl
    try simp only [Act.put, List.setIfInBounds_toArray, List.set_cons_zero, List.set_cons_succ]
    refine wpAnyH_done (by kernel_rfl) ?_ _
    go_wp2_with fail
    go_meet
    case rel => exact ⟨w2.heap.size, sa, sc, rfl, rfl, rfl, Lib.hid ⟨hHs, hXge, setRow_heap (new := cst2.toArray) hbx, hots.keptOff (KeptOff.row _ _ _) hXo⟩⟩

  case rest =>
    obtain ⟨X, sa, sc, rfl, rfl, rfl, hc⟩ := hcut
    have hBc := Lib.hid (F.out.b.trans (hc.out.1.mono F.out.b.size))
    have F5 := Lib.hid (F.out.below (hc.out.1.mono F.out.sz))
    have hXX := hc.out.2.1
    have hXb := Lib.hid hc.out.2.2.1
    have hots := Lib.hid hc.out.2.2.2
    have hcm5 : Hid (∀ w', Below wc.heap.size wc w' → w'.rangeAt w.heap.size 0 cm) := Lib.hid (fun w' hb => hcm.out _ (hc.out.1.trans (hb.mono hc.out.1.size)))
    have hcw5 : Hid (∀ w', Below wc.heap.size wc w' → w'.rangeAt lb 0 cw) := Lib.hid (fun w' hb => hcw.out _ (hc.out.1.trans (hb.mono hc.out.1.size)))
    have hcst5 : Hid (∀ w', Below wc.heap.size wc w' → w'.rangeAt lb 7 cst) := Lib.hid (fun w' hb => hcst.out _ (hc.out.1.trans (hb.mono hc.out.1.size)))
    have hsend : Hid (∀ w', Below wc.heap.size wc w' → _) := Lib.hid (fun w' hb => hsd.out w' (hBc.out.trans (hb.mono hBc.out.size)) sa os.length sc os (hots.out.below hb) hlt'.out)
    have h8 : os.length ≤ 8 := hlt'.out.2
    have hX3 : w.heap.size + 3 ≤ X := by have := F.out.sz; omega
    clear hc F hcm hcw hcst hsd hrun hvr hcw0
    go_upto_region 5 with fail
    refine wp_region_held_drew (S := fun w' => Below wc.heap.size wc w') (by kernel_rfl) (Below.refl _ wc).drew (fun hHeld => ?_)
    clear hHeld
    have hHd : Below wc.heap.size wc wc.drew := (Below.refl _ wc).drew
    refine wpAnyH_take (i := 0) (oi := { dst := some 39, op := Op.move (Operand.tmp 0), type := 28, pos := "log.go:74", after := #[], guard := none }) (v := ?vv0_19) rfl (by kernel_rfl) (by kernel_rfl) (by kernel_rfl) (fun _ _ _ h => h) (Or.inl ⟨by rfl, ?hy0_19⟩) hHd ?rest0_19
    case hy0_19 =>
      intro w hSw
      go_simp
      try with_reducible rfl
    try simp only [Act.put, List.setIfInBounds_toArray, List.set_cons_zero, List.set_cons_succ]
    refine wpAnyH_take (i := 1) (oi := { dst := some 40, op := Op.nilCheck (Operand.tmp 39), type := 0, pos := "log.go:74", after := #[{ on := 0, ground := Ground.data }], guard := none }) (v := ?vv1_20) rfl (by kernel_rfl) (by kernel_rfl) (by kernel_rfl) (fun _ _ _ h => h) (Or.inl ⟨by rfl, ?hy1_20⟩) hHd ?rest1_20
    case hy1_20 =>
      intro w hSw
      go_simp
      try with_reducible rfl
    try simp only [Act.put, List.setIfInBounds_toArray, List.set_cons_zero, List.set_cons_succ]
    refine wpAnyH_take (i := 2) (oi := { dst := some 41, op := Op.fieldAddr 71 (Operand.tmp 40) 0, type := 0, pos := "log.go:74", after := #[{ on := 1, ground := Ground.data }], guard := none }) (v := ?vv2_21) rfl (by kernel_rfl) (by kernel_rfl) (by kernel_rfl) (fun _ _ _ h => h) (Or.inl ⟨by rfl, ?hy2_21⟩) hHd ?rest2_21
    case hy2_21 =>
      intro w hSw
      go_simp
      try with_reducible rfl
    try simp only [Act.put, List.setIfInBounds_toArray, List.set_cons_zero, List.set_cons_succ]
    refine wpAnyH_take (i := 3) (oi := { dst := some 42, op := Op.load 26 (Operand.tmp 41), type := 26, pos := "log.go:74", after := #[{ on := 2, ground := Ground.data }], guard := none }) (v := .agg (cw).toArray) rfl (by kernel_rfl) (by kernel_rfl) (by kernel_rfl) (fun _ _ _ h => h) (yieldsIf_load_mid (by rfl) 26 (.tmp 41) (by rfl) lb 0 (by rfl) (cw) _ (fun w' h => hcw5.out w' h) Tryz.underlying26 rfl (by rw [hlw]; exact infoWo)) hHd ?_
    try simp only [Act.put, List.setIfInBounds_toArray, List.set_cons_zero, List.set_cons_succ]
    refine wpAnyH_take (i := 4) (oi := { dst := some 43, op := Op.move (Operand.tmp 0), type := 28, pos := "log.go:74", after := #[], guard := none }) (v := ?vv4_22) rfl (by kernel_rfl) (by kernel_rfl) (by kernel_rfl) (fun _ _ _ h => h) (Or.inl ⟨by rfl, ?hy4_22⟩) hHd ?rest4_22
    case hy4_22 =>
      intro w hSw
      go_simp
      try with_reducible rfl
    try simp only [Act.put, List.setIfInBounds_toArray, List.set_cons_zero, List.set_cons_succ]
    refine wpAnyH_take (i := 5) (oi := { dst := some 44, op := Op.nilCheck (Operand.tmp 43), type := 0, pos := "log.go:74", after := #[{ on := 4, ground := Ground.data }], guard := none }) (v := ?vv5_23) rfl (by kernel_rfl) (by kernel_rfl) (by kernel_rfl) (fun _ _ _ h => h) (Or.inl ⟨by rfl, ?hy5_23⟩) hHd ?rest5_23
    case hy5_23 =>
      intro w hSw
      go_simp
      try with_reducible rfl
    try simp only [Act.put, List.setIfInBounds_toArray, List.set_cons_zero, List.set_cons_succ]
    refine wpAnyH_take (i := 6) (oi := { dst := some 45, op := Op.fieldAddr 71 (Operand.tmp 44) 4, type := 0, pos := "log.go:74", after := #[{ on := 5, ground := Ground.data }], guard := none }) (v := ?vv6_24) rfl (by kernel_rfl) (by kernel_rfl) (by kernel_rfl) (fun _ _ _ h => h) (Or.inl ⟨by rfl, ?hy6_24⟩) hHd ?rest6_24
    case hy6_24 =>
      intro w hSw
      go_simp
      try with_reducible rfl
    try simp only [Act.put, List.setIfInBounds_toArray, List.set_cons_zero, List.set_cons_succ]
    refine wpAnyH_take (i := 7) (oi := { dst := some 46, op := Op.load 34 (Operand.tmp 45), type := 34, pos := "log.go:74", after := #[{ on := 6, ground := Ground.data }], guard := none }) (v := .agg (cst).toArray) rfl (by kernel_rfl) (by kernel_rfl) (by kernel_rfl) (fun _ _ _ h => h) (yieldsIf_load_mid (by rfl) 34 (.tmp 45) (by rfl) lb 7 (by rfl) (cst) _ (fun w' h => hcst5.out w' h) Tryz.underlying34 rfl (by rw [hls]; exact infoS10)) hHd ?_
    try simp only [Act.put, List.setIfInBounds_toArray, List.set_cons_zero, List.set_cons_succ]
    refine wpAnyH_take (i := 8) (oi := { dst := some 47, op := Op.load 42 (Operand.tmp 5), type := 42, pos := "log.go:74", after := #[], guard := none }) (v := .agg (cm).toArray) rfl (by kernel_rfl) (by kernel_rfl) (by kernel_rfl) (fun _ _ _ h => h) (yieldsIf_load_mid (by rfl) 42 (.tmp 5) (by rfl) w.heap.size 0 (by rfl) (cm) _ (fun w' h => hcm5.out w' h) Tryz.underlying42 rfl (by rw [hlm]; exact infoMe)) hHd ?_
    try simp only [Act.put, List.setIfInBounds_toArray, List.set_cons_zero, List.set_cons_succ]
    refine wpAnyH_take (i := 9) (oi := { dst := some 48, op := Op.move (Operand.tmp 13), type := 92, pos := "log.go:74", after := #[], guard := none }) (v := ?vv9_25) rfl (by kernel_rfl) (by kernel_rfl) (by kernel_rfl) (fun _ _ _ h => h) (Or.inl ⟨by rfl, ?hy9_25⟩) hHd ?rest9_25
    case hy9_25 =>
      intro w hSw
      go_simp
      try with_reducible rfl
    try simp only [Act.put, List.setIfInBounds_toArray, List.set_cons_zero, List.set_cons_succ]
    refine wpAnyH_take (i := 10) (oi := { dst := some 49, op := Op.move (Operand.tmp 2), type := 3, pos := "log.go:74", after := #[], guard := none }) (v := ?vv10_26) rfl (by kernel_rfl) (by kernel_rfl) (by kernel_rfl) (fun _ _ _ h => h) (Or.inl ⟨by rfl, ?hy10_26⟩) hHd ?rest10_26
    case hy10_26 =>
      intro w hSw
      go_simp
      try with_reducible rfl
    try simp only [Act.put, List.setIfInBounds_toArray, List.set_cons_zero, List.set_cons_succ]
    refine wpAnyH_ready (rs := [11]) (by kernel_rfl) (by simp) ?_
    refine AllReadyH.cons (o := { dst := some 50, op := Op.call { callee := Callee.value (Operand.func 44), args := #[Operand.tmp 42, Operand.tmp 46, Operand.tmp 47, Operand.tmp 48, Operand.tmp 49], argTypes := #[26, 34, 42, 92, 3] }, type := 37, pos := "log.go:74", after := #[{ on := 3, ground := Ground.data }, { on := 7, ground := Ground.data }, { on := 8, ground := Ground.data }, { on := 9, ground := Ground.data }, { on := 10, ground := Ground.data }], guard := none }) rfl (fun K hK => ?_) AllReadyH.nil
    go_simp
    refine (hsend.out _ hHd).mono ?_
    rintro x w5 ⟨a5, c5, rfl, hq5⟩
    have hHw := hHd.trans (hq5.out.2.mono hHd.size)
    refine hK.out _ _ hHw (fun hHeld => ?_)
    clear hHeld hK K
    try simp only [Act.put, List.setIfInBounds_toArray, List.set_cons_zero, List.set_cons_succ]
    refine wpAnyH_take (i := 12) (oi := { dst := some 15, op := Op.assign (Operand.tmp 50), type := 37, pos := "log.go:74", after := #[{ on := 11, ground := Ground.data }, { on := 11, ground := Ground.chain }, { on := 0, ground := Ground.phase }, { on := 1, ground := Ground.phase }, { on := 2, ground := Ground.phase }, { on := 3, ground := Ground.phase }, { on := 4, ground := Ground.phase }, { on := 5, ground := Ground.phase }, { on := 6, ground := Ground.phase }, { on := 7, ground := Ground.phase }, { on := 8, ground := Ground.phase }, { on := 9, ground := Ground.phase }, { on := 10, ground := Ground.phase }, { on := 11, ground := Ground.phase }], guard := none }) (v := ?vv12_27) rfl (by kernel_rfl) (by kernel_rfl) (by kernel_rfl) (fun _ _ _ h => h) (Or.inl ⟨by rfl, ?hy12_27⟩) hHw ?rest12_27
    case hy12_27 =>
      intro w hSw
      go_simp
      try with_reducible rfl
    try simp only [Act.put, List.setIfInBounds_toArray, List.set_cons_zero, List.set_cons_succ]
    refine wpAnyH_done (by kernel_rfl) ?_ _

    have F6 := Lib.hid (F5.out.below (hHw.mono F5.out.sz))
    have hXb6 := Lib.hid ((hHw.block X (Array.getElem?_eq_some_iff.1 hXb.out).1).trans hXb.out)
    have hB6 := Lib.hid (hBc.out.trans (hHw.mono hBc.out.size))
    have hnm := lgName_own (kept := kept) (uid := uid) (own_base hq5.out.1 (Nat.le_trans (by have := F5.out.sz; omega : w.heap.size ≤ wc.heap.size) hHd.size)) (hK'.out.below hB6.out) hKl'.out hu (by omega)
    have hown := Lib.hid (fun k (e : (Value.slice a5 os.length c5).ownBlock = some k) => (hq5.out.1.lt k e))
    have hHdd := Lib.hid hHd.size
    have hXl := Lib.hid (Array.getElem?_eq_some_iff.1 hXb.out).1
    clear hq5 hHw hHd hXb hots hcm5 hcw5 hcst5 hsend
    go_wp2_with fail
    refine hnm.mono ?_
    rintro x w6 ⟨rfl, hq6⟩
    have hofs : Hid (∀ k, (Value.slice a5 os.length c5).ownBlock = some k → w.heap.size + 3 ≤ k) := Lib.hid (fun k e => by have := (hown.out k e).1; have := F5.out.sz; have := hHdd.out; simp at *; omega)
    have F7 := Lib.hid (F6.out.kept hq6.out.2 (fun k e => hofs.out k e))
    have hXb7 := Lib.hid ((hq6.out.2.block X (Array.getElem?_eq_some_iff.1 hXb6.out).1 (fun e => by have := (hown.out X e).1; have := hXl.out; have := hHdd.out; simp at *; omega)).trans hXb6.out)
    have hcm7 : Hid (∀ w', KeptOff (fun k => k = w.heap.size + 1 ∨ k = w.heap.size + 1 + 1) w6 w' → w'.rangeAt w.heap.size 0 cm) := Lib.hid (fun w' hk => by
      have := range_block ((hk.block w.heap.size (by have := F7.out.sz; omega) (by omega)).trans F7.out.a)
      simpa using this)
    have hX7 : Hid (∀ w', KeptOff (fun k => k = w.heap.size + 1 ∨ k = w.heap.size + 1 + 1) w6 w' → w'.rangeAt X 0 cst2) := Lib.hid (fun w' hk => by
      have := range_block ((hk.block X (Array.getElem?_eq_some_iff.1 hXb7.out).1 (by omega)).trans hXb7.out)
      simpa using this)
    have hcst7 : Hid (∀ w', KeptOff (fun k => k = w.heap.size + 1 ∨ k = w.heap.size + 1 + 1) w6 w' → w'.rangeAt lb 7 cst) := Lib.hid (fun w' hk => hcst0.out _ (F7.out.b.trans (hk.below (fun k _ e => by omega) (by have := F7.out.sz; omega))))
    have hE7 := Lib.hid F7.out.s
    have hS7 := Lib.hid F7.out.m
    have hsz7 : Hid (∀ (a : Option Addr) (n c : Nat), ((cm ++ cst ++ [Value.int .i64 fl, Value.slice a n c]).toArray).size = 19) := Lib.hid (fun a n c => by simp [hlm, hls])
    have hM7 := Lib.hid hq6.out.1
    have hfr := Lib.hid (fun k (e : (Value.slice a5 os.length c5).ownBlock = some k) => (Nat.le_trans (by omega : w.heap.size ≤ w.heap.size + 3) (hofs.out k e)))
    clear hnm hq6 F6 hXb6 hcst0
    go_upto_region 7 with fail
    have hHd : KeptOff (fun k => k = w.heap.size + 1 ∨ k = w.heap.size + 1 + 1) w6 w6.drew := ⟨rfl, rfl, rfl, Nat.le_refl _, fun _ _ _ => rfl⟩
    refine wp_region_held_drew (S := fun w' => KeptOff (fun k => k = w.heap.size + 1 ∨ k = w.heap.size + 1 + 1) w6 w') (by kernel_rfl) hHd (fun hHeld => ?_)
    clear hHeld
    refine wpAnyH_take (i := 0) (oi := { dst := some 55, op := Op.load 42 (Operand.tmp 5), type := 42, pos := "log.go:76", after := #[], guard := none }) (v := .agg (cm).toArray) rfl (by kernel_rfl) (by kernel_rfl) (by kernel_rfl) (fun _ _ _ h => h) (yieldsIf_load_mid (by rfl) 42 (.tmp 5) (by rfl) w.heap.size 0 (by rfl) (cm) _ (fun w' h => hcm7.out w' h) Tryz.underlying42 rfl (by rw [hlm]; exact infoMe)) hHd ?_
    try simp only [Act.put, List.setIfInBounds_toArray, List.set_cons_zero, List.set_cons_succ]
    refine wpAnyH_take (i := 1) (oi := { dst := some 56, op := Op.move (Operand.tmp 0), type := 28, pos := "log.go:76", after := #[], guard := none }) (v := ?vv1_28) rfl (by kernel_rfl) (by kernel_rfl) (by kernel_rfl) (fun _ _ _ h => h) (Or.inl ⟨by rfl, ?hy1_28⟩) hHd ?rest1_28
    case hy1_28 =>
      intro w hSw
      go_simp
      try with_reducible rfl
    try simp only [Act.put, List.setIfInBounds_toArray, List.set_cons_zero, List.set_cons_succ]
    refine wpAnyH_take (i := 2) (oi := { dst := some 57, op := Op.nilCheck (Operand.tmp 56), type := 0, pos := "log.go:76", after := #[{ on := 1, ground := Ground.data }], guard := none }) (v := ?vv2_29) rfl (by kernel_rfl) (by kernel_rfl) (by kernel_rfl) (fun _ _ _ h => h) (Or.inl ⟨by rfl, ?hy2_29⟩) hHd ?rest2_29
    case hy2_29 =>
      intro w hSw
      go_simp
      try with_reducible rfl
    try simp only [Act.put, List.setIfInBounds_toArray, List.set_cons_zero, List.set_cons_succ]
    refine wpAnyH_take (i := 3) (oi := { dst := some 58, op := Op.fieldAddr 71 (Operand.tmp 57) 4, type := 0, pos := "log.go:76", after := #[{ on := 2, ground := Ground.data }], guard := none }) (v := ?vv3_30) rfl (by kernel_rfl) (by kernel_rfl) (by kernel_rfl) (fun _ _ _ h => h) (Or.inl ⟨by rfl, ?hy3_30⟩) hHd ?rest3_30
    case hy3_30 =>
      intro w hSw
      go_simp
      try with_reducible rfl
    try simp only [Act.put, List.setIfInBounds_toArray, List.set_cons_zero, List.set_cons_succ]
    refine wpAnyH_take (i := 4) (oi := { dst := some 59, op := Op.load 34 (Operand.tmp 58), type := 34, pos := "log.go:76", after := #[{ on := 3, ground := Ground.data }], guard := none }) (v := .agg (cst).toArray) rfl (by kernel_rfl) (by kernel_rfl) (by kernel_rfl) (fun _ _ _ h => h) (yieldsIf_load_mid (by rfl) 34 (.tmp 58) (by rfl) lb 7 (by rfl) (cst) _ (fun w' h => hcst7.out w' h) Tryz.underlying34 rfl (by rw [hls]; exact infoS10)) hHd ?_
    try simp only [Act.put, List.setIfInBounds_toArray, List.set_cons_zero, List.set_cons_succ]
    refine wpAnyH_take (i := 5) (oi := { dst := some 60, op := Op.move (Operand.tmp 14), type := 29, pos := "log.go:76", after := #[], guard := none }) (v := ?vv5_31) rfl (by kernel_rfl) (by kernel_rfl) (by kernel_rfl) (fun _ _ _ h => h) (Or.inl ⟨by rfl, ?hy5_31⟩) hHd ?rest5_31
    case hy5_31 =>
      intro w hSw
      go_simp
      try with_reducible rfl
    try simp only [Act.put, List.setIfInBounds_toArray, List.set_cons_zero, List.set_cons_succ]
    refine wpAnyH_take (i := 6) (oi := { dst := some 61, op := Op.move (Operand.tmp 15), type := 37, pos := "log.go:76", after := #[], guard := none }) (v := ?vv6_32) rfl (by kernel_rfl) (by kernel_rfl) (by kernel_rfl) (fun _ _ _ h => h) (Or.inl ⟨by rfl, ?hy6_32⟩) hHd ?rest6_32
    case hy6_32 =>
      intro w hSw
      go_simp
      try with_reducible rfl
    try simp only [Act.put, List.setIfInBounds_toArray, List.set_cons_zero, List.set_cons_succ]
    refine wpAnyH_take (i := 7) (oi := { dst := some 62, op := Op.build 44 #[(0, Operand.tmp 55), (1, Operand.tmp 59), (2, Operand.tmp 60), (3, Operand.tmp 61)], type := 44, pos := "log.go:76", after := #[{ on := 0, ground := Ground.data }, { on := 4, ground := Ground.data }, { on := 5, ground := Ground.data }, { on := 6, ground := Ground.data }], guard := none }) (v := .agg (cm ++ cst ++ [Value.int .i64 fl, Value.slice a5 os.length c5]).toArray) rfl (by kernel_rfl) (by kernel_rfl) (by kernel_rfl) (fun _ _ _ h => h) (yieldsIf_build (by rfl) 44 #[(0, .tmp 55), (1, .tmp 59), (2, .tmp 60), (3, .tmp 61)] (by rfl) #[(0, .agg cm.toArray), (1, .agg cst.toArray), (2, .int .i64 fl), (3, .slice a5 os.length c5)] (by simp only [List.map_toArray, List.map_cons, List.map_nil]; rfl) (fun w => hbd.out _ _ _ _ w)) hHd ?_
    try simp only [Act.put, List.setIfInBounds_toArray, List.set_cons_zero, List.set_cons_succ]
    refine wpAnyH_take (i := 8) (oi := { dst := some 63, op := Op.load 34 (Operand.tmp 12), type := 34, pos := "log.go:76", after := #[{ on := 9, ground := Ground.gcOnly Departure.lateStores }], guard := none }) (v := .agg (cst2).toArray) rfl (by kernel_rfl) (by kernel_rfl) (by kernel_rfl) (fun _ _ _ h => h) (yieldsIf_load_mid (by rfl) 34 (.tmp 12) (by rfl) X 0 (by rfl) (cst2) _ (fun w' h => hX7.out w' h) Tryz.underlying34 rfl (by rw [hls2]; exact infoS10)) hHd ?_
    try simp only [Act.put, List.setIfInBounds_toArray, List.set_cons_zero, List.set_cons_succ]
    refine wpAnyH_ready (rs := [9]) (by kernel_rfl) (by simp) ?_
    refine AllReadyH.cons (o := { dst := none, op := Op.store 44 (Operand.tmp 8) (Operand.tmp 62), type := 0, pos := "log.go:76", after := #[{ on := 7, ground := Ground.data }, { on := 0, ground := Ground.phase }, { on := 1, ground := Ground.phase }, { on := 2, ground := Ground.phase }, { on := 3, ground := Ground.phase }, { on := 4, ground := Ground.phase }, { on := 5, ground := Ground.phase }, { on := 6, ground := Ground.phase }, { on := 7, ground := Ground.phase }, { on := 8, ground := Ground.textOnly Departure.lateStores }], guard := none }) rfl (fun K hK => ?_) AllReadyH.nil
    refine step_store_row rfl 44 (.tmp 8) (.tmp 62) (by rfl) (w.heap.size + 1) (cm ++ cst ++ [Value.int .i64 fl, Value.slice a5 os.length c5]).toArray (by rfl) (by rfl) 44 z19 hE7.out (by rw [hsz7.out]; exact infoEn) (by rw [hsz7.out]; rfl) (hone19.out _ _ _ _) ?_
    refine hK.out _ _ (hHd.trans ((KeptOff.row _ _ _).mono (fun k _ e => .inl e))) (fun hHeld => ?_)
    clear hHeld hK K
    try simp only [Act.put, List.setIfInBounds_toArray, List.set_cons_zero, List.set_cons_succ]
    have hH8 := hHd.trans ((KeptOff.row w6.drew (w.heap.size + 1) (cm ++ cst ++ [Value.int .i64 fl, Value.slice a5 os.length c5]).toArray).mono (fun k _ e => .inl e))
    have hS8 := (setRow_other w6.drew (w.heap.size + 1) (w.heap.size + 1 + 1) (cm ++ cst ++ [Value.int .i64 fl, Value.slice a5 os.length c5]).toArray (by omega)).trans hS7.out
    refine wpAnyH_ready (rs := [10]) (by kernel_rfl) (by simp) ?_
    refine AllReadyH.cons (o := { dst := none, op := Op.store 34 (Operand.tmp 9) (Operand.tmp 63), type := 0, pos := "log.go:76", after := #[{ on := 8, ground := Ground.data }, { on := 9, ground := Ground.chain }, { on := 0, ground := Ground.phase }, { on := 1, ground := Ground.phase }, { on := 2, ground := Ground.phase }, { on := 3, ground := Ground.phase }, { on := 4, ground := Ground.phase }, { on := 5, ground := Ground.phase }, { on := 6, ground := Ground.phase }, { on := 7, ground := Ground.phase }, { on := 8, ground := Ground.phase }, { on := 9, ground := Ground.phase }], guard := none }) rfl (fun K hK => ?_) AllReadyH.nil
    refine step_store_row rfl 34 (.tmp 9) (.tmp 63) (by rfl) (w.heap.size + 1 + 1) cst2.toArray (by rfl) (by rfl) 34 z10 hS8 (by simp only [List.size_toArray, hls2]; exact infoS10) (by simp only [List.size_toArray, hls2]; rfl) hone2 ?_
    refine hK.out _ _ (hH8.trans ((KeptOff.row _ _ _).mono (fun k _ e => .inr e))) (fun hHeld => ?_)
    clear hHeld hK K
    try simp only [Act.put, List.setIfInBounds_toArray, List.set_cons_zero, List.set_cons_succ]
    have hH9 := hH8.trans ((KeptOff.row (w6.drew.setRow (w.heap.size + 1) (cm ++ cst ++ [Value.int .i64 fl, Value.slice a5 os.length c5]).toArray) (w.heap.size + 1 + 1) cst2.toArray).mono (fun k _ e => .inr e))
    refine wpAnyH_take (i := 11) (oi := { dst := some 10, op := Op.assign (Operand.const (Value.int IntKind.i64 0)), type := 29, pos := "log.go:76", after := #[{ on := 10, ground := Ground.chain }, { on := 0, ground := Ground.phase }, { on := 1, ground := Ground.phase }, { on := 2, ground := Ground.phase }, { on := 3, ground := Ground.phase }, { on := 4, ground := Ground.phase }, { on := 5, ground := Ground.phase }, { on := 6, ground := Ground.phase }, { on := 7, ground := Ground.phase }, { on := 8, ground := Ground.phase }, { on := 9, ground := Ground.phase }, { on := 10, ground := Ground.phase }], guard := none }) (v := ?vv11_33) rfl (by kernel_rfl) (by kernel_rfl) (by kernel_rfl) (fun _ _ _ h => h) (Or.inl ⟨by rfl, ?hy11_33⟩) hH9 ?rest11_33
    case hy11_33 =>
      intro w hSw
      go_simp
      try with_reducible rfl
    try simp only [Act.put, List.setIfInBounds_toArray, List.set_cons_zero, List.set_cons_succ]
    refine wpAnyH_done (by kernel_rfl) ?_ _
    have hS9 := Lib.hid (setRow_heap (new := cst2.toArray) hS8)
    have hE9 := Lib.hid ((setRow_other (w6.drew.setRow (w.heap.size + 1) (cm ++ cst ++ [Value.int .i64 fl, Value.slice a5 os.length c5]).toArray) (w.heap.size + 1 + 1) (w.heap.size + 1) cst2.toArray (by omega)).trans (setRow_heap (new := (cm ++ cst ++ [Value.int .i64 fl, Value.slice a5 os.length c5]).toArray) (show w6.drew.heap[w.heap.size + 1]? = _ from hE7.out)))
    have hM9 := Lib.hid (hM7.out.keptOff hH9 (fun k e => by have := hofs.out k e; omega))
    have hB9 := Lib.hid (F7.out.b.trans (hH9.below (fun k _ e => by omega) (by have := F7.out.sz; omega)))
    clear hH8 hH9 hS8 hHd hcm7 hX7 hcst7 hE7 hS7 hM7 F7

    generalize hWf : (w6.drew.setRow (w.heap.size + 1) (cm ++ cst ++ [Value.int .i64 fl, Value.slice a5 os.length c5]).toArray).setRow (w.heap.size + 1 + 1) cst2.toArray = Wf at *
    go_wp2_with fail
    exact bodyPost_ret (results_row_row_tmp (fn := Tryz.f30) rfl _ Wf _ 44 (cm ++ cst ++ [Value.int .i64 fl, Value.slice a5 os.length c5]).toArray _ _ 34 cst2.toArray _ rfl hE9.out Tryz.underlying44 rfl (by rw [hsz7.out]; exact infoEn) rfl hS9.out Tryz.underlying34 rfl (by simp only [List.size_toArray, hls2]; exact infoS10)) rfl ⟨a5, c5, by rw [hce'.out]; rfl, hM9.out, hB9.out, hfr.out⟩
end Go.Proofs.YtminfmjgmmkaoaaGreatDoor
