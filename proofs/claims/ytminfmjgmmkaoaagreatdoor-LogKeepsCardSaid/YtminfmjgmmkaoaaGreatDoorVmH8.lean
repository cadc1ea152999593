/-
  The map of the instructions; which of them a number names, and what it does.
  An instruction, found in the map and done: what it comes to, at every instruction that may be.
  The contract of the program's run: a handler's program from its place on, a fault caught.
-/
import Derived.Test.YtminfmjgmmkaoaaGreatDoorVmH5
import Derived.Test.YtminfmjgmmkaoaaGreatDoorVmF
import Derived.MapKept
import Derived.Carry
import Derived.Deep.RegionHeld3
import Derived.LoopTactic
import Derived.Outline
namespace Go.Proofs.YtminfmjgmmkaoaaGreatDoor
open Go.ChangeShapes Go.WideShapes Go.ChangeAt Go.RowKit Go.Sort Go.MapKept
set_option linter.unusedVariables false
set_option maxRecDepth 4000

/-- A map that the call fills: at block r, these entries. -/
structure MapAt (w0 : World) (r : Nat) (w : World) (es : Array MapEntry) (n : Nat) : Prop where
  at_ : w.heap[r]? = some (.map es n)
  below : Below w0.heap.size w0 w
  new : w0.heap.size ≤ r
theorem wpList_insert_new {P : Program} (w : World) {ops : Array Oper} {rest : List Oper} {o : Oper} {a : Act} {Q : Exit → Act → World → Prop}
    (hg : o.guard = none) (m x y : Operand) (t : TypeId) (hop : o.op = Op.insert t m x y)
    (k e : TypeId) (ht : P.underlying t = some (.map k e)) (hk : P.underlying k = some (.int .i64)) (w0 : World) (r n : Nat) (es : Array MapEntry) (c : Int) (v : Value)
    (hm : a.eval m = .map (some r)) (hx : a.eval x = .int .i64 c) (hv : a.eval y = v) (hM : MapAt w0 r w es n) (hf : Instr.findNow (.int .i64) (.int .i64 c) es.toList 0 = some none)
    (hK : ∀ w', MapAt w0 r w' (es.push { key := .int .i64 c, val := v, born := n }) (n + 1) → wpList P ops Q rest (a.put o.dst undef) w') :
    wpList P ops Q (o :: rest) a w := by
  refine wpList_plain hg fun K' hK' => ?_
  obtain ⟨hb, hB, hn⟩ := hM
  have hc : (Instr.checkKey false 10000 k (.int .i64 c)).run P w = .ok () w := run_checkKey (k := .int .i64 c) hk (by simp [IsKey]) false 9999
  have hrun : (Instr.mapUpdate t (.map (some r)) (.int .i64 c) v).run P w = .ok () { w with heap := w.heap.setIfInBounds r (.map (es.push { key := .int .i64 c, val := v, born := n }) (n + 1)) } := by
    simp [Instr.mapUpdate, run_underlying ht, Go.MapKept.run_getObj_map hb, hc, run_findKey hk hf, Go.MapKept.run_setObj_map _ hb, Result.andThen]
  unfold Oper.wp
  simp [execOp, hop, hm, hx, hv, hrun, Result.andThen]
  refine hK' _ _ (hK _ ⟨(heap_set hb).1, hB.trans ⟨rfl, rfl, rfl, by simp, fun k hk => (heap_set hb).2 k (by omega)⟩, hn⟩)
def insV (f : FuncId) : Value := .func (.func f) #[] #[]
def insEnt : Array MapEntry := #[⟨.int .i64 0, insV 87, 0⟩, ⟨.int .i64 1, insV 88, 1⟩, ⟨.int .i64 2, insV 89, 2⟩, ⟨.int .i64 3, insV 90, 3⟩, ⟨.int .i64 4, insV 91, 4⟩, ⟨.int .i64 5, insV 92, 5⟩, ⟨.int .i64 6, insV 93, 6⟩, ⟨.int .i64 7, insV 94, 7⟩, ⟨.int .i64 8, insV 95, 8⟩, ⟨.int .i64 9, insV 96, 9⟩, ⟨.int .i64 10, insV 97, 10⟩, ⟨.int .i64 11, insV 98, 11⟩, ⟨.int .i64 12, insV 99, 12⟩, ⟨.int .i64 13, insV 100, 13⟩, ⟨.int .i64 14, insV 101, 14⟩, ⟨.int .i64 15, insV 102, 15⟩, ⟨.int .i64 16, insV 103, 16⟩]
theorem lookup_ins {w : World} {r i : Nat} {op : Int} {f : FuncId} (h : w.heap[r]? = some (.map insEnt 17)) (hf : Instr.findNow (.int .i64) (.int .i64 op) insEnt.toList 0 = some (some (i, insV f))) :
    (Instr.lookup 159 (.map (some r)) (.int .i64 op) false).run Tryz.prog w = .ok (.func (.func f) #[] #[]) w := by
  have hc : (Instr.checkKey insEnt.isEmpty 10000 3 (.int .i64 op)).run Tryz.prog w = .ok () w := run_checkKey (k := .int .i64 op) Tryz.underlying3 (by simp [IsKey]) _ 9999
  simp [Instr.lookup, run_underlying Tryz.underlying159, Go.MapKept.run_getObj_map h, hc, run_findKey Tryz.underlying3 hf, Result.andThen, insV]
set_option maxRecDepth 100000 in
set_option maxHeartbeats 4000000 in
theorem instructions_any (w : World) :
    Calls Tryz.prog 83 #[] w fun e w' => e = .returned (.map (some w.heap.size)) ∧ Aside (w'.heap[w.heap.size]? = some (.map insEnt 17) ∧ Below w.heap.size w w') := by
  have hmm := @run_makeMap Tryz.prog
  have hM : MapAt w w.heap.size (w.alloc (.map #[] 0)) #[] 0 := ⟨heap_alloc_new w _, (Below.refl _ w).alloc (Nat.le_refl _) _, Nat.le_refl _⟩
  go_enter Tryz.func83, Tryz.ntmps83
  go_wp2_with (refine wpList_insert_new _ rfl _ _ _ _ rfl 3 162 Tryz.underlying159 Tryz.underlying3 _ _ _ _ _ _ rfl rfl rfl hM (by rfl) ?_; clear hM; intro w' hM)
  go_ret
  exact ⟨rfl, hM.at_, hM.below⟩
end Go.Proofs.YtminfmjgmmkaoaaGreatDoor
namespace Go.Proofs.YtminfmjgmmkaoaaGreatDoor
open Go.ChangeShapes Go.WideShapes Go.ChangeAt Go.RowKit Go.Sort
set_option linter.unusedVariables false
set_option maxRecDepth 4000

/-- What the program makes of an instruction: it halts by jumping behind the end. -/
def stepH (W : Wd) (ev : M) (pl : Nat) (i : I) (m : Mc) : Res := if i.op = 0 then .on { m with pc := (pl : Int) } else stepP W ev i m
/-- All that an instruction wants of the handler and its world. -/
structure InsPre (b1 : Nat) (w : World) (x : Nat) (v : Wv) (W : Wd) (ev : M) (ov : Value) (m : Mc) : Prop where
  h : HM b1 w x v W ev ov m
  hw : Wds w v W
  ll : W.links.length ≤ 1024
  looks : ∀ k, k < W.links.length → 1 ≤ (W.links.getD k default).look
  t : 0 ≤ ev.k.t ∧ ev.k.t ≤ 4611686018427387903
  d : 0 ≤ m.d ∧ m.d ≤ 1152921504606846976
  r : RegsOk m
  o : m.o.length ≤ 8
/-- Instruction f, whose number is op, does what is asked. -/
def Does (op : Int) (i : I) (f : FuncId) : Prop :=
  ((∃ j, Instr.findNow (.int .i64) (.int .i64 op) insEnt.toList 0 = some (some (j, insV f))) ∧ ∀ args w, (callFunc f args).run Tryz.prog w = .ok (.enter f args) w) ∧
  ∀ {b1 : Nat} {w : World} {x : Nat} {v : Wv} {W : Wd} {ev : M} {ov : Value} {m : Mc}, InsPre b1 w x v W ev ov m →
    Calls Tryz.prog f #[.pointer (some ⟨x, 0, none⟩), i.val] w (InsQ b1 w x v W ev (stepH W ev v.pl i m))
theorem does_0 (a b c : Int) : Does 0 ⟨0, a, b, c⟩ 87 := ⟨⟨⟨0, rfl⟩, (fun _ _ => by kernel_rfl)⟩, fun p => h_halt p.h 0 a b c⟩
theorem does_1 (a : Nat) (b c : Int) (ha : a < 16) : Does 1 ⟨1, a, b, c⟩ 88 := ⟨⟨⟨1, rfl⟩, (fun _ _ => by kernel_rfl)⟩, fun p => h_set p.h 1 a ha b c⟩
theorem does_2 (a b : Nat) (c : Int) (ha : a < 16) (hb : b < 16) : Does 2 ⟨2, a, b, c⟩ 89 := ⟨⟨⟨2, rfl⟩, (fun _ _ => by kernel_rfl)⟩, fun p => h_move p.h 2 a ha b hb c⟩
theorem does_3 (a b c : Nat) (ha : a < 16) (hb : b < 16) (hc : c < 16) : Does 3 ⟨3, a, b, c⟩ 90 := ⟨⟨⟨3, rfl⟩, (fun _ _ => by kernel_rfl)⟩, fun p => h_add p.h 3 a ha b hb c hc⟩
theorem does_4 (a b c : Nat) (ha : a < 16) (hb : b < 16) (hc : c < 16) : Does 4 ⟨4, a, b, c⟩ 91 := ⟨⟨⟨4, rfl⟩, (fun _ _ => by kernel_rfl)⟩, fun p => h_sub p.h 4 a ha b hb c hc⟩
theorem does_5 (a b c : Nat) (ha : a < 16) (hb : b < 16) (hc : c < 16) : Does 5 ⟨5, a, b, c⟩ 92 := ⟨⟨⟨5, rfl⟩, (fun _ _ => by kernel_rfl)⟩, fun p => h_mul p.h 5 a ha b hb c hc⟩
theorem on_math {W : Wd} {ev : M} {pl : Nat} {op a b c : Int} {m : Mc} {z : Int} (h : twoB op = true) (hz : mathP op (m.reg b) (m.reg c) = z) : stepH W ev pl ⟨op, a, b, c⟩ m = .on (m.put a z) := by
  have h' : op = 3 ∨ op = 4 ∨ op = 5 ∨ op = 6 ∨ op = 7 ∨ op = 8 ∨ op = 9 := by simpa [twoB] using h
  subst hz
  rcases h' with rfl | rfl | rfl | rfl | rfl | rfl | rfl <;> rfl
theorem does_6 (a b c : Nat) (ha : a < 16) (hb : b < 16) (hc : c < 16) : Does 6 ⟨6, a, b, c⟩ 93 := by
  refine ⟨⟨⟨6, rfl⟩, (fun _ _ => by kernel_rfl)⟩, fun {b1 w x v W ev ov m} p => ?_⟩
  by_cases hz : m.reg c = 0
  · rw [on_math (z := 0) rfl (by simp [mathP, hz])]
    exact h_div_z p.h 6 a ha b hb c hc hz
  · rw [on_math (z := wrap64 ((m.reg b).tdiv (m.reg c))) rfl (by simp [mathP, hz])]
    exact h_div_n p.h 6 a ha b hb c hc hz
theorem does_7 (a b c : Nat) (ha : a < 16) (hb : b < 16) (hc : c < 16) : Does 7 ⟨7, a, b, c⟩ 94 := by
  refine ⟨⟨⟨7, rfl⟩, (fun _ _ => by kernel_rfl)⟩, fun {b1 w x v W ev ov m} p => ?_⟩
  by_cases hz : m.reg c = 0
  · rw [on_math (z := 0) rfl (by simp [mathP, hz])]
    exact h_mod_z p.h 7 a ha b hb c hc hz
  · rw [on_math (z := (m.reg b).tmod (m.reg c)) rfl (by simp [mathP, hz])]
    exact h_mod_n p.h 7 a ha b hb c hc hz
theorem does_8 (a b c : Nat) (ha : a < 16) (hb : b < 16) (hc : c < 16) : Does 8 ⟨8, a, b, c⟩ 95 := by
  refine ⟨⟨⟨8, rfl⟩, (fun _ _ => by kernel_rfl)⟩, fun {b1 w x v W ev ov m} p => ?_⟩
  by_cases hz : m.reg b < m.reg c
  · rw [on_math (z := 1) rfl (by simp [mathP, hz])]
    exact h_less_t p.h 8 a ha b hb c hc hz
  · rw [on_math (z := 0) rfl (by simp [mathP, hz])]
    exact h_less_f p.h 8 a ha b hb c hc hz
theorem does_9 (a b c : Nat) (ha : a < 16) (hb : b < 16) (hc : c < 16) : Does 9 ⟨9, a, b, c⟩ 96 := by
  refine ⟨⟨⟨9, rfl⟩, (fun _ _ => by kernel_rfl)⟩, fun {b1 w x v W ev ov m} p => ?_⟩
  by_cases hz : m.reg b = m.reg c
  · rw [on_math (z := 1) rfl (by simp [mathP, hz])]
    exact h_same_t p.h 9 a ha b hb c hc hz
  · rw [on_math (z := 0) rfl (by simp [mathP, hz])]
    exact h_same_f p.h 9 a ha b hb c hc hz
theorem does_10 (a b c : Int) : Does 10 ⟨10, a, b, c⟩ 97 := ⟨⟨⟨10, rfl⟩, (fun _ _ => by kernel_rfl)⟩, fun p => h_jump p.h 10 a b c⟩
theorem does_11 (a : Nat) (b c : Int) (ha : a < 16) : Does 11 ⟨11, a, b, c⟩ 98 := by
  refine ⟨⟨⟨11, rfl⟩, (fun _ _ => by kernel_rfl)⟩, fun {b1 w x v W ev ov m} p => ?_⟩
  have e : stepH W ev v.pl ⟨11, a, b, c⟩ m = .on (if m.reg a = 0 then { m with pc := b } else m) := rfl
  rw [e]
  by_cases hz : m.reg a = 0
  · rw [if_pos hz]; exact h_zero_t p.h 11 a ha b c hz
  · rw [if_neg hz]; exact h_zero_f p.h 11 a ha b c hz
theorem does_12 (a b c : Nat) (ha : a < 16) (hb : b < 16) (hc : c < 16) : Does 12 ⟨12, a, b, c⟩ 99 := by
  refine ⟨⟨⟨12, rfl⟩, (fun _ _ => by kernel_rfl)⟩, fun {b1 w x v W ev ov m} p => ?_⟩
  have e : stepH W ev v.pl ⟨12, a, b, c⟩ m = sendP W ev.k.t ⟨12, a, b, c⟩ m := rfl
  rw [e]
  have hll : W.links.length = v.ll := p.hw.2.1.1
  have hl := p.ll
  have ho := p.o
  unfold sendP
  simp only
  by_cases g : W.links.length = 0 ∨ 8 ≤ m.o.length
  · rw [if_pos g]
    by_cases g0 : v.ll = 0
    · exact h_send_links p.h 12 a b c g0
    · exact h_send_full p.h 12 a b c (by omega) (by omega) (by omega)
  · rw [if_neg g]
    obtain ⟨kk, hk1, hk2, -⟩ := link_of (m.reg a) v.ll (by omega)
    rw [hll, hk1, Int.toNat_natCast]
    have hlook := p.looks kk (by omega)
    cases hlk : W.links.getD kk default with
    | mk src dst look loose =>
      rw [hlk] at hlook
      simp only at hlook ⊢
      by_cases hB : m.reg b < look
      · rw [if_pos hB]
        exact h_send_look p.h 12 a b c ha hb hc p.hw (by omega) (by omega) (by omega) p.t kk hk2 hk1 src dst look loose hlk hB
      · rw [if_neg hB]
        by_cases hT : 4611686018427387903 - ev.k.t < m.reg b
        · rw [if_pos hT]
          exact h_send_time p.h 12 a b c ha hb hc p.hw (by omega) (by omega) (by omega) p.t kk hk2 hk1 src dst look loose hlk hlook hB hT
        · rw [if_neg hT]
          exact h_send_ok p.h 12 a b c ha hb hc p.hw (by omega) (by omega) (by omega) p.t kk hk2 hk1 src dst look loose hlk hlook hB hT
theorem does_13 (a b : Nat) (c : Int) (ha : a < 16) (hb : b < 16) : Does 13 ⟨13, a, b, c⟩ 100 :=
  ⟨⟨⟨13, rfl⟩, (fun _ _ => by kernel_rfl)⟩, fun p => h_draw p.h 13 a ha b hb c p.hw.2.2.1 p.d (p.r.reg b).2⟩
theorem does_14 (a : Nat) (b c : Int) (ha : a < 16) : Does 14 ⟨14, a, b, c⟩ 101 := ⟨⟨⟨14, rfl⟩, (fun _ _ => by kernel_rfl)⟩, fun p => h_value p.h 14 a ha b c⟩
theorem does_15 (a : Nat) (b c : Int) (ha : a < 16) : Does 15 ⟨15, a, b, c⟩ 102 := ⟨⟨⟨15, rfl⟩, (fun _ _ => by kernel_rfl)⟩, fun p => h_time p.h 15 a ha b c⟩
theorem does_16 (a : Nat) (b c : Int) (ha : a < 16) : Does 16 ⟨16, a, b, c⟩ 103 := ⟨⟨⟨16, rfl⟩, (fun _ _ => by kernel_rfl)⟩, fun p => h_self p.h 16 a ha b c⟩
theorem does_any (i : I) (n : Int) (hmay : mayB i n = true) : ∃ f, Does i.op i f := by
  obtain ⟨op, a, b, c⟩ := i
  have hf : fieldsB ⟨op, a, b, c⟩ n = true := by
    unfold mayB at hmay
    exact (Bool.and_eq_true _ _ ▸ hmay).2
  by_cases h0 : op = 0
  · subst h0; exact ⟨_, does_0 a b c⟩
  by_cases h1 : op = 1
  · subst h1
    obtain ⟨a', rfl, ha⟩ := reg_nat (f_1 hf)
    exact ⟨_, does_1 a' b c ha⟩
  by_cases h2 : op = 2
  · subst h2
    obtain ⟨fa, fb⟩ := f_ab hf (.inl rfl)
    obtain ⟨a', rfl, ha⟩ := reg_nat fa
    obtain ⟨b', rfl, hb⟩ := reg_nat fb
    exact ⟨_, does_2 a' b' c ha hb⟩
  by_cases h3 : op = 10
  · subst h3; exact ⟨_, does_10 a b c⟩
  by_cases h4 : op = 11
  · subst h4
    obtain ⟨a', rfl, ha⟩ := reg_nat (f_11 hf)
    exact ⟨_, does_11 a' b c ha⟩
  by_cases h5 : op = 12
  · subst h5
    obtain ⟨fa, fb, fc⟩ := f_abc hf (.inr rfl)
    obtain ⟨a', rfl, ha⟩ := reg_nat fa
    obtain ⟨b', rfl, hb⟩ := reg_nat fb
    obtain ⟨c', rfl, hc⟩ := reg_nat fc
    exact ⟨_, does_12 a' b' c' ha hb hc⟩
  by_cases h6 : op = 13
  · subst h6
    obtain ⟨fa, fb⟩ := f_ab hf (.inr rfl)
    obtain ⟨a', rfl, ha⟩ := reg_nat fa
    obtain ⟨b', rfl, hb⟩ := reg_nat fb
    exact ⟨_, does_13 a' b' c ha hb⟩
  by_cases h7 : op = 14
  · subst h7
    obtain ⟨a', rfl, ha⟩ := reg_nat (f_a hf (.inl rfl))
    exact ⟨_, does_14 a' b c ha⟩
  by_cases h8 : op = 15
  · subst h8
    obtain ⟨a', rfl, ha⟩ := reg_nat (f_a hf (.inr (.inl rfl)))
    exact ⟨_, does_15 a' b c ha⟩
  by_cases h9 : op = 16
  · subst h9
    obtain ⟨a', rfl, ha⟩ := reg_nat (f_a hf (.inr (.inr rfl)))
    exact ⟨_, does_16 a' b c ha⟩
  have htwo := f_two hf h0 h1 h2 h3 h4 h5 h6 h7 h8 h9
  obtain ⟨fa, fb, fc⟩ := f_abc hf (.inl htwo)
  obtain ⟨a', rfl, ha⟩ := reg_nat fa
  obtain ⟨b', rfl, hb⟩ := reg_nat fb
  obtain ⟨c', rfl, hc⟩ := reg_nat fc
  have h' : op = 3 ∨ op = 4 ∨ op = 5 ∨ op = 6 ∨ op = 7 ∨ op = 8 ∨ op = 9 := by simpa [twoB] using htwo
  rcases h' with rfl | rfl | rfl | rfl | rfl | rfl | rfl
  · exact ⟨_, does_3 a' b' c' ha hb hc⟩
  · exact ⟨_, does_4 a' b' c' ha hb hc⟩
  · exact ⟨_, does_5 a' b' c' ha hb hc⟩
  · exact ⟨_, does_6 a' b' c' ha hb hc⟩
  · exact ⟨_, does_7 a' b' c' ha hb hc⟩
  · exact ⟨_, does_8 a' b' c' ha hb hc⟩
  · exact ⟨_, does_9 a' b' c' ha hb hc⟩
end Go.Proofs.YtminfmjgmmkaoaaGreatDoor
namespace Go.Proofs.YtminfmjgmmkaoaaGreatDoor
open Go.ChangeShapes Go.WideShapes Go.ChangeAt Go.RowKit Go.Sort
set_option linter.unusedVariables false
set_option maxRecDepth 4000

/-- Where a run has ended, the place no longer matters. -/
def nrm : Res → Res
  | .on m => .stop { m with pc := 0 }
  | .stop m => .stop { m with pc := 0 }
  | .fault e => .fault e
/-- What a run comes to. -/
def RunH (x : Nat) (w : World) (v : Wv) (W : Wd) (ev : M) (r : Res) (e : Ending) (w' : World) : Prop := match r with
  | .fault k => e = .returned (.int .i64 k) ∧ k ≠ 0 ∧ Kp x w.heap.size w w'
  | .stop m' => e = .returned (.int .i64 0) ∧ ∃ b2 ov' pc', HM b2 w' x v W ev ov' { m' with pc := pc' } ∧ Kp x w.heap.size w w' ∧ m'.o.length ≤ 8
  | .on m' => e = .returned (.int .i64 0) ∧ ∃ b2 ov' pc', HM b2 w' x v W ev ov' { m' with pc := pc' } ∧ Kp x w.heap.size w w' ∧ m'.o.length ≤ 8
/-- What a run wants. -/
structure RunPre (b0 b1 : Nat) (w : World) (x : Nat) (v : Wv) (W : Wd) (ev : M) (m : Mc) : Prop where
  hm : HM b1 w x v W ev (.slice none 0 0) m
  o : m.o = []
  pc : m.pc = 0
  bx : b0 ≤ x
  hw : ∀ w', Below b0 w w' → Wds w' v W
  may : ∀ k, k < W.prog.length → mayB (W.prog.getD k default) W.prog.length = true
  plen : W.prog.length ≤ 256
  ll : W.links.length ≤ 1024
  looks : ∀ k, k < W.links.length → 1 ≤ (W.links.getD k default).look
  t : 0 ≤ ev.k.t ∧ ev.k.t ≤ 4611686018427387903
  d : 0 ≤ m.d ∧ m.d ≤ 1125899906842624
  r : RegsOk m
  evv : In64 ev.v
  self : In64 W.self
  g : 1 < b0
  e : ErrT w
theorem Kp.mono {x b1 b2 : Nat} {w w' : World} (h : Kp x b1 w w') (hb : b2 ≤ b1) : Kp x b2 w w' := ⟨h.os, h.tape, h.output, h.size, fun k hk hx => h.block k (by omega) hx⟩
theorem own_nil (w : World) (b : Nat) : w.ownsRow b 129 3 (.slice none 0 0) 0 (flatO []) := ⟨rfl, .inl ⟨rfl, rfl⟩⟩
theorem HM.other {b1 : Nat} {w : World} {x : Nat} {v : Wv} {W : Wd} {ev : M} {ov : Value} {m : Mc} (h : HM b1 w x v W ev ov m) {p : Addr} (hp : p.block < b1) (hx : p.block ≠ x) (u : Value) : HM b1 (w.setCell p u) x v W ev ov m :=
  ⟨h.xb, by simpa [World.setCell] using h.hb, (Below.heap_setCell _ _ _ _ (Ne.symm hx)).trans h.hx, h.rl, ownsRow_setCell_below h.own hp u⟩
theorem Kp.other {x b1 : Nat} {a w : World} (h : Kp x b1 a w) {p : Addr} (hp : b1 ≤ p.block) (u : Value) : Kp x b1 a (w.setCell p u) :=
  h.then_below ((Below.refl _ _).setCell hp u)
/-- What holds at the head of a round; j: the fuel that is left. -/
structure LoopH (x b2 : Nat) (w1 wr : World) (v : Wv) (W : Wd) (ev : M) (m0 : Mc) (j : Nat) (ov : Value) (m' : Mc) : Prop where
  h : HM b2 wr x v W ev ov m'
  k : Kp x b2 w1 wr
  i : McOk m'
  d1 : m0.d ≤ m'.d
  d2 : m'.d ≤ m0.d + (4096 - j : Nat)
  run : nrm (runP W ev 4096 m0) = nrm (runP W ev j m')
/-- What is known of the world in which the rounds begin. -/
structure Begun (x b2 : Nat) (w w1 : World) : Prop where
  k : Kp x w.heap.size w w1
  r : w1.heap[w.heap.size]? = some (.cells #[.int .i64 0] 29 (0, 0))
  m : w1.heap[w.heap.size + 1]? = some (.map insEnt 17)
  b : b2 = w.heap.size + 2
  x : x < w.heap.size
/-- A round ends the program's run: the program is at its end, or the fuel is. -/
theorem run_ends {x b2 j : Nat} {w w1 wr : World} {v : Wv} {W : Wd} {ev : M} {m0 m' : Mc} {ov : Value} (hB : Begun x b2 w w1) (hL : LoopH x b2 w1 wr v W ev m0 j ov m') (hj : j = 0 ∨ ¬ m'.pc < (W.prog.length : Int)) {wf : World} (hf : Kp x w.heap.size wr wf) (hHf : HM b2 wf x v W ev ov m') :
    RunH x w v W ev (nrm (runP W ev 4096 m0)) (.returned (.int .i64 0)) wf := by
  have e : nrm (runP W ev j m') = .stop { m' with pc := 0 } := by
    rcases hj with rfl | h
    · rfl
    · rw [runP_end h]; rfl
  rw [hL.run, e]
  refine ⟨rfl, b2, ov, m'.pc, hHf, hB.k.trans ((hL.k.mono (by rw [hB.b]; omega)).trans hf), hL.i.o⟩
theorem stepP_nostop {W : Wd} {ev : M} {i : I} {m m2 : Mc} (h : i.op ≠ 0) : stepP W ev i m ≠ .stop m2 := by
  unfold stepP sendP
  rw [if_neg h]
  repeat' split
  all_goals (intro e; cases e)
set_option maxHeartbeats 8000000 in
set_option maxRecDepth 100000 in
theorem h_run {b0 b1 : Nat} {w : World} {x : Nat} {v : Wv} {W : Wd} {ev : M} {m : Mc} (p : RunPre b0 b1 w x v W ev m) :
    Calls Tryz.prog 65 #[.pointer (some ⟨x, 0, none⟩)] w (RunH x w v W ev (nrm (runP W ev 4096 m))) := by
  have hmf : ∀ (fn : Fn) (first cap : Array Value) (w : World), (Instr.makeFunc fn first cap).run Tryz.prog w = .ok (.func fn first cap) w := fun _ _ _ _ => rfl
  have e0 : ∀ o, (w.alloc o).cell? ⟨x, 0, none⟩ = some (.slice v.pa v.pl v.pc) := fun o => (p.hm.alloc o).cell 0 rfl
  have hp := Lib.hid p
  have hpl : v.pl ≤ 256 := by
    have h1 := (p.hw w (Below.refl _ _)).1.1
    have h2 := p.plen
    omega
  clear p
  go_enter_defers Tryz.func65, Tryz.ntmps65
  go_wp2
  clear hmf
  generalize hA : w.alloc (.cells #[.int .i64 0] 29) = wA
  have f0 : wA.cell? ⟨x, 0, none⟩ = some (.slice v.pa v.pl v.pc) := by rw [← hA]; exact e0 _
  have hxA : x < wA.heap.size := by rw [← hA]; have := hp.out.hm.xw; simp; omega
  have hA' := Lib.hid hA
  clear hA e0
  go_region_held3 (fun w' => w'.cell? ⟨x, 0, none⟩ = some (.slice v.pa v.pl v.pc))
    (first | exact f0 | exact f1 | go_keep)
    (first | (go_at_call 83; refine (instructions_any _).mono ?_; rintro e w1 ⟨rfl, hm1, hb1⟩; have f1 : w1.cell? ⟨x, 0, none⟩ = some (.slice v.pa v.pl v.pc) := (hb1.cell (p := ⟨x, 0, none⟩) hxA).trans f0))
  have hB : Begun x (w.heap.size + 2) w w1 := by
    have hb2 : Below wA.heap.size wA w1 := ⟨hb1.os, hb1.tape, hb1.output, hb1.size, hb1.block⟩
    have hm2 : w1.heap[wA.heap.size]? = some (.map insEnt 17) := hm1
    have hA := hA'.out
    have hs : wA.heap.size = w.heap.size + 1 := by rw [← hA]; simp
    have hz : wA.heap[w.heap.size]? = some (.cells #[.int .i64 0] 29 (0, 0)) := by rw [← hA]; exact heap_alloc_new w _
    have hwA : Below w.heap.size w wA := by rw [← hA]; exact (Below.refl _ w).alloc (Nat.le_refl _) _
    exact ⟨Kp.of_below (hwA.trans (hb2.mono (by omega))), (hb2.block _ (by omega)).trans hz, by rw [← hs]; exact hm2, rfl, hp.out.hm.xw⟩
  have hAs : wA.heap.size = w.heap.size + 1 := by rw [← hA'.out]; simp
  have hL : LoopH x (w.heap.size + 2) w1 w1 v W ev m 4096 (.slice none 0 0) m := by
    have hm := hp.out.hm
    have hb2 : Below wA.heap.size wA w1 := ⟨hb1.os, hb1.tape, hb1.output, hb1.size, hb1.block⟩
    have hwA : Below w.heap.size w wA := by rw [← hA'.out]; exact (Below.refl _ w).alloc (Nat.le_refl _) _
    have hsz : w.heap.size + 2 ≤ w1.heap.size := by have := (Array.getElem?_eq_some_iff.1 hB.m).1; omega
    have ho := hp.out.o
    have hbw : Below w.heap.size w w1 := hwA.trans (hb2.mono (by omega))
    refine ⟨⟨by have := hm.xw; omega, hsz, (hbw.block x hm.xw).trans hm.hx, hm.rl, by rw [ho]; exact own_nil w1 _⟩, Kp.refl _ _ _, ⟨hp.out.r, by rw [hp.out.pc]; exact Int.le_refl _, by rw [ho]; simp⟩, Int.le_refl _, by omega, rfl⟩
  rw [hAs]
  clear f0 hxA hA' hAs hm1 hb1 wA f1
  go_wp2_with fail
  go_loopw [5] (fun f wr => ∃ j : Nat, j ≤ 4096 ∧ f = .int .i64 (j : Int) ∧ Aside (∃ ov m', LoopH x (w.heap.size + 2) w1 wr v W ev m j ov m')) (fun f _ => (intOf f).toNat)
  case atStart => exact ⟨4096, by omega, rfl, _, _, hL⟩
  case round =>
    clear hL
    obtain ⟨j, hj, rfl, ov, m', hL⟩ := hrel
    have hL' := Lib.hid hL
    have hB' := Lib.hid hB
    clear hB hL
    by_cases hj0 : 0 < j
    · obtain ⟨n, hn⟩ : ∃ n : Nat, m'.pc = (n : Int) := ⟨m'.pc.toNat, by have := hL'.out.i.pc; omega⟩
      have e27 : wr.cell? ⟨x, 27, none⟩ = some (.int .i64 (n : Int)) := by rw [← hn]; exact hL'.out.h.pc
      have hn' := Lib.hid hn
      clear hn
      by_cases hlt : n < v.pl
      · have hKw : Below b0 w wr := (hB'.out.k.trans (hL'.out.k.mono (by omega))).below hp.out.bx (by have := hp.out.bx; have := hB'.out.x; omega)
        have hW := hp.out.hw wr hKw
        have hll := hW.1.1
        have hmay := hp.out.may n (by omega)
        obtain ⟨pb, po, hpa, hpm⟩ : ∃ pb po, v.pa = some ⟨pb, po, none⟩ ∧ ∀ k, k < v.pl → InsAt wr pb (po + k * 4) (W.prog.getD k default) := by
          rcases hW.1.2.2.2.2 with g | g
          · omega
          · exact g
        have hix := hpm n hlt
        generalize hi : W.prog.getD n default = i at hix hmay
        have hi' := Lib.hid hi
        have hpa' := Lib.hid hpa
        have hW' := Lib.hid hW
        have hmay' := Lib.hid hmay
        have hll' := Lib.hid hll
        have hKw' := Lib.hid hKw
        obtain ⟨op, a, b, c⟩ := i
        obtain ⟨-, p0, p1, p2, p3⟩ := hix
        simp only at p0 p1 p2 p3
        have hnI : (n : Int) < (v.pl : Int) := by omega
        have hD1 := Lib.hid (hL'.out.h.alloc (.cells #[.int .i64 op, .int .i64 a, .int .i64 b, .int .i64 c] 62))
        have hI1 := Lib.hid (InsAt.mk wr op a b c)
        have hsr := hL'.out.h.hb
        have hK1 := Lib.hid (hL'.out.k.then_below ((Below.refl _ wr).alloc hsr (.cells #[.int .i64 op, .int .i64 a, .int .i64 b, .int .i64 c] 62)))
        have hxr := hL'.out.h.xw
        clear hi hpa hpm hW hmay hll hKw
        rw [hpa'.out]
        go_upto_region 7 with (fail)
        clear p0 p1 p2 p3 e27
        have hI1s : wr.heap.size < (wr.alloc (.cells #[.int .i64 op, .int .i64 a, .int .i64 b, .int .i64 c] 62)).heap.size := by simp
        generalize wr.alloc (.cells #[.int .i64 op, .int .i64 a, .int .i64 b, .int .i64 c] 62) = W1 at *
        have e27 : W1.cell? ⟨x, 27, none⟩ = some (.int .i64 (n : Int)) := by rw [← hn'.out]; exact hD1.out.pc
        have f27 := hD1.out.fx 27
        have hD2 := Lib.hid (hD1.out.setPc ((n : Int) + 1))
        have hK2 := Lib.hid (hK1.out.set 27 (.int .i64 ((n : Int) + 1)))
        have hI2 : InsAt (W1.setCell ⟨x, 27, none⟩ (.int .i64 ((n : Int) + 1))) wr.heap.size 0 ⟨op, a, b, c⟩ := hI1.out.setCell_ne (by simp; omega)
        go_upto_region 8 with (fail)
        clear e27 f27 hD1 hK1 hI1
        generalize W1.setCell ⟨x, 27, none⟩ (.int .i64 ((n : Int) + 1)) = W2 at *
        obtain ⟨i0, i1, i2, i3⟩ := hI2.cells4
        simp only at i0 i1 i2 i3
        obtain ⟨f, ⟨⟨jj, hfind⟩, hcf⟩, hdo⟩ := does_any _ _ hmay'.out
        have hm2 : W2.heap[w.heap.size + 1]? = some (.map insEnt 17) := (hK2.out.block (w.heap.size + 1) (by omega) (by have := hB'.out.x; omega)).trans hB'.out.m
        have hlk := lookup_ins hm2 hfind
        have hpre : InsPre (w.heap.size + 2) W2 x v W ev ov { m' with pc := (n : Int) + 1 } := by
          have hi3 := hL'.out.i
          have hd0 := hp.out.d
          have hd1 := hL'.out.d1
          have hd2 := hL'.out.d2
          refine ⟨hD2.out, hp.out.hw W2 ?_, hp.out.ll, hp.out.looks, hp.out.t, ⟨?_, ?_⟩, hi3.r, hi3.o⟩
          · exact (hB'.out.k.trans (hK2.out.mono (by omega))).below hp.out.bx (by have := hp.out.bx; have := hB'.out.x; omega)
          · show 0 ≤ m'.d
            omega
          · show m'.d ≤ _
            omega
        have hcall := hdo hpre
        simp only [I.val] at hcall
        have hinv := fun m2 => step_inv (W := W) (ev := ev) (m := { m' with pc := (n : Int) + 1 }) (m' := m2) hmay'.out ⟨hL'.out.i.r, by show 0 ≤ (n : Int) + 1; omega, hL'.out.i.o⟩ hp.out.evv (by have := hp.out.t; unfold In64; omega) hp.out.self
        have hpcn : m'.pc < (W.prog.length : Int) := by rw [hn'.out, hll'.out]; exact hnI
        cases hr : stepH W ev v.pl ⟨op, a, b, c⟩ { m' with pc := (n : Int) + 1 } with
        | on m2 =>
          rw [hr] at hcall
          have hr' := Lib.hid hr
          have hinv' := Lib.hid hinv
          have hpcn' := Lib.hid hpcn
          have hfd := Lib.hid hfind
          clear hr hinv hpcn hfind hdo hpre hm2
          go_wp2_with fail
          refine hcall.mono ?_
          rintro e W3 ⟨rfl, ov3, hH3, hK3⟩
          have hL3 : Hid (LoopH x (w.heap.size + 2) w1 W3 v W ev m (j - 1) ov3 m2) := by
            have hi3 := hL'.out.i
            have hd1 := hL'.out.d1
            have hd2 := hL'.out.d2
            by_cases h0 : op = 0
            · subst h0
              have hr0 : Res.on { m' with pc := (v.pl : Int) } = Res.on m2 := hr'.out
              cases hr0
              refine ⟨hH3, hK2.out.trans hK3, ⟨hi3.r, by show (0 : Int) ≤ (v.pl : Int); omega, hi3.o⟩, hd1, by show m'.d ≤ _; omega, ?_⟩
              have hst := runP_stop (f := j - 1) (W := W) (ev := ev) (m := m') (m' := { m' with pc := m'.pc + 1 }) hpcn'.out (by rw [hn'.out, Int.toNat_natCast, hi'.out]; rfl)
              have hend := runP_end (f := j - 1) (W := W) (ev := ev) (m := { m' with pc := (v.pl : Int) }) (by have := hll'.out; show ¬ (v.pl : Int) < _; omega)
              rw [hL'.out.run, show runP W ev j m' = runP W ev ((j - 1) + 1) m' by rw [show (j - 1) + 1 = j by omega], hst, hend]
              rfl
            · have hs : stepP W ev ⟨op, a, b, c⟩ { m' with pc := (n : Int) + 1 } = .on m2 := by
                have := hr'.out
                unfold stepH at this
                rwa [if_neg h0] at this
              obtain ⟨g1, g2, g3⟩ := hinv'.out m2 (.inl hs)
              refine ⟨hH3, hK2.out.trans hK3, g1, by omega, by omega, ?_⟩
              rw [hL'.out.run, show runP W ev j m' = runP W ev ((j - 1) + 1) m' by rw [show (j - 1) + 1 = j by omega], runP_on hpcn'.out (by rw [hn'.out, Int.toNat_natCast, hi'.out]; exact hs)]
          clear hH3 hK3 hL' hn' hr' hinv' hpcn' hi' hmay' hll' hKw' hW' hD2 hK2 hlk hcf hcall hfd hI2 i0 i1 i2 i3 hpa'
          go_wp2
          go_roundw
          case rel => exact ⟨j - 1, by omega, by go_num, _, _, hL3.out⟩
          case measure => simp [intOf]; omega
        | stop m2 =>
          exfalso
          unfold stepH at hr
          split at hr
          · cases hr
          · rename_i h0
            exact stepP_nostop (by simpa using h0) hr
        | fault k =>
          rw [hr] at hcall
          have hs : stepP W ev ⟨op, a, b, c⟩ { m' with pc := (n : Int) + 1 } = .fault k := by
            unfold stepH at hr
            split at hr
            · cases hr
            · exact hr
          have hrun : nrm (runP W ev 4096 m) = .fault k := by
            rw [hL'.out.run, show runP W ev j m' = runP W ev ((j - 1) + 1) m' by rw [show (j - 1) + 1 = j by omega], runP_fault hpcn (by rw [hn'.out, Int.toNat_natCast, hi'.out]; exact hs)]
            rfl
          have hrun' := Lib.hid hrun
          have hE : ∀ W3, Kp x (w.heap.size + 2) W2 W3 → ErrT W3 ∧ W3.cell? ⟨w.heap.size, 0, none⟩ = some (.int .i64 0) ∧ W3.frozen? ⟨w.heap.size, 0, none⟩ = false ∧ Kp x w.heap.size w W3 := fun W3 hK3 => by
            have hx := hB'.out.x
            have hKall := hB'.out.k.trans ((hK2.out.trans hK3).mono (by omega))
            have hR : W3.heap[w.heap.size]? = _ := ((hK2.out.trans hK3).block w.heap.size (by omega) (by omega)).trans hB'.out.r
            have hg := hp.out.g
            have hbx := hp.out.bx
            refine ⟨⟨?_, ?_⟩, hrow_cell hR 0 rfl, by simp [World.frozen?, hR], hKall⟩
            · have := hKall.size; omega
            · rw [hKall.cell (by simp; omega) (by simp; omega)]; exact hp.out.e.2
          have hE' := Lib.hid hE
          clear hr hs hinv hpcn hfind hdo hpre hm2 hrun hE hL' hB' hn' hi' hmay' hll' hKw' hW' hpa' hp hD2 hK2
          go_wp2_with fail
          refine hcall.mono ?_
          rintro e W3 ⟨rfl, hk0, hK3⟩
          obtain ⟨g1, g2, g3, g4⟩ := hE'.out W3 hK3
          have g4' := Lib.hid g4
          have hpb : w.heap.size < W3.heap.size := World.block_lt_of_cell? W3 _ g2
          clear hcall hK3 hE' g4
          show bodyPostD _ _ _ (Exit.panic (faultV k)) _ _
          refine leaves_cons (f := 81) (args := #[.pointer (some ⟨w.heap.size, 0, none⟩)]) (by simp) (by simp [go_sem]) ?_
          refine (catch_fault ⟨w.heap.size, 0, none⟩ 0 k [] W3 g1 g2 g3).mono ?_
          rintro e u' w'' ⟨rfl, rfl, W4, hb4, rfl⟩
          have g2' : W4.cell? ⟨w.heap.size, 0, none⟩ = some (.int .i64 0) := (hb4.cell hpb).trans g2
          have q2 : (W4.setCell ⟨w.heap.size, 0, none⟩ (.int .i64 k)).cell? ⟨w.heap.size, 0, none⟩ = some (.int .i64 k) := World.cell?_setCell_same _ _ _ g2'
          have hQ : Hid (RunH x w v W ev (nrm (runP W ev 4096 m)) (.returned (.int .i64 k)) (W4.setCell ⟨w.heap.size, 0, none⟩ (.int .i64 k))) :=
            Lib.hid (hrun'.out ▸ ⟨rfl, hk0, ((g4'.out.then_below (hb4.mono (by omega))).other (p := ⟨w.heap.size, 0, none⟩) (Nat.le_refl _) _)⟩)
          generalize W4.setCell ⟨w.heap.size, 0, none⟩ (.int .i64 k) = W5 at *
          simp [Leaves, settle, results, Tryz.results65, go_sem, q2]
          exact hQ.out
      · have hll := (hp.out.hw w (Below.refl _ _)).1.1
        have hlt' : ¬ (n : Int) < (v.pl : Int) := by omega
        have eR : wr.cell? ⟨w.heap.size, 0, none⟩ = some (.int .i64 0) := (hL'.out.k.cell (by simp) (by have := hB'.out.x; simp; omega)).trans (hrow_cell hB'.out.r 0 rfl)
        have fR : wr.frozen? ⟨w.heap.size, 0, none⟩ = false := by
          have : wr.heap[w.heap.size]? = _ := (hL'.out.k.block w.heap.size (by omega) (by have := hB'.out.x; omega)).trans hB'.out.r
          simp [World.frozen?, this]
        have hQ := Lib.hid (run_ends hB'.out hL'.out (.inr (by rw [hn'.out, hll]; omega)) ((Kp.refl x w.heap.size wr).other (p := ⟨w.heap.size, 0, none⟩) (Nat.le_refl _) (.int .i64 0)) (hL'.out.h.other (p := ⟨w.heap.size, 0, none⟩) (by simp) (by have := hB'.out.x; simp; omega) (.int .i64 0)))
        clear hL' hB'
        clear hll
        go_wp2
        have qR : (wr.setCell ⟨w.heap.size, 0, none⟩ (.int .i64 0)).cell? ⟨w.heap.size, 0, none⟩ = some (.int .i64 0) := World.cell?_setCell_same _ _ _ eR
        generalize wr.setCell ⟨w.heap.size, 0, none⟩ (.int .i64 0) = wf at *
        refine leaves_cons (f := 81) (args := #[.pointer (some ⟨w.heap.size, 0, none⟩)]) (by simp) (by simp [go_sem]) ?_
        refine (catch_idle ⟨w.heap.size, 0, none⟩ _).mono ?_
        rintro e u' w'' ⟨rfl, rfl, rfl⟩
        simp [Leaves, settle, results, Tryz.results65, go_sem, qR]
        exact hQ.out
    · obtain rfl : j = 0 := by omega
      have eR : wr.cell? ⟨w.heap.size, 0, none⟩ = some (.int .i64 0) := (hL'.out.k.cell (by simp) (by have := hB'.out.x; simp; omega)).trans (hrow_cell hB'.out.r 0 rfl)
      have fR : wr.frozen? ⟨w.heap.size, 0, none⟩ = false := by
        have : wr.heap[w.heap.size]? = _ := (hL'.out.k.block w.heap.size (by omega) (by have := hB'.out.x; omega)).trans hB'.out.r
        simp [World.frozen?, this]
      have hQ := Lib.hid (run_ends hB'.out hL'.out (.inl rfl) ((Kp.refl x w.heap.size wr).other (p := ⟨w.heap.size, 0, none⟩) (Nat.le_refl _) (.int .i64 0)) (hL'.out.h.other (p := ⟨w.heap.size, 0, none⟩) (by simp) (by have := hB'.out.x; simp; omega) (.int .i64 0)))
      clear hL' hB'
      go_wp2
      have qR : (wr.setCell ⟨w.heap.size, 0, none⟩ (.int .i64 0)).cell? ⟨w.heap.size, 0, none⟩ = some (.int .i64 0) := World.cell?_setCell_same _ _ _ eR
      generalize wr.setCell ⟨w.heap.size, 0, none⟩ (.int .i64 0) = wf at *
      refine leaves_cons (f := 81) (args := #[.pointer (some ⟨w.heap.size, 0, none⟩)]) (by simp) (by simp [go_sem]) ?_
      refine (catch_idle ⟨w.heap.size, 0, none⟩ _).mono ?_
      rintro e u' w'' ⟨rfl, rfl, rfl⟩
      simp [Leaves, settle, results, Tryz.results65, go_sem, qR]
      exact hQ.out
end Go.Proofs.YtminfmjgmmkaoaaGreatDoor
