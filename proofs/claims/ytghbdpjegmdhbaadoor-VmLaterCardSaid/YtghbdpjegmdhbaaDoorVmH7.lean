/-
  An instruction, found in the map and done: what it comes to, at every instruction that may be.
-/
import Derived.Test.YtghbdpjegmdhbaaDoorVmH6
namespace Go.Proofs.YtghbdpjegmdhbaaDoor
open Go.ChangeShapes Go.WideShapes Go.ChangeAt Go.RowKit Go.Sort
set_option linter.unusedVariables false
set_option maxRecDepth 4000

/-- What the program makes of an instruction: it halts by jumping behind the end. -/
def stepH (W : Wd) (ev : M) (pl : Nat) (i : I) (m : Mc) : Res := if i.op = 0 then .on { m with pc := (pl : Int) } else stepP W ev i m
/-- All that an instruction wants of the handler and its world. -/
structure InsPre (b1 : Nat) (w : World) (x : Nat) (v : Wv) (W : Wd) (ev : M) (ov : Value) (m : Mc) : Prop where
  h : HM b1 w x v W ev ov m
  hw : Wds w v W
  ll : W.links.length ≤ 1024
  looks : ∀ k, k < W.links.length → 1 ≤ (W.links.getD k default).look
  t : 0 ≤ ev.k.t ∧ ev.k.t ≤ 4611686018427387903
  d : 0 ≤ m.d ∧ m.d ≤ 1152921504606846976
  r : RegsOk m
  o : m.o.length ≤ 8
/-- Instruction f, whose number is op, does what is asked. -/
def Does (op : Int) (i : I) (f : FuncId) : Prop :=
  ((∃ j, Instr.findNow (.int .i64) (.int .i64 op) insEnt.toList 0 = some (some (j, insV f))) ∧ ∀ args w, (callFunc f args).run Tryd.prog w = .ok (.enter f args) w) ∧
  ∀ {b1 : Nat} {w : World} {x : Nat} {v : Wv} {W : Wd} {ev : M} {ov : Value} {m : Mc}, InsPre b1 w x v W ev ov m →
    Calls Tryd.prog f #[.pointer (some ⟨x, 0, none⟩), i.val] w (InsQ b1 w x v W ev (stepH W ev v.pl i m))
theorem does_0 (a b c : Int) : Does 0 ⟨0, a, b, c⟩ 48 := ⟨⟨⟨0, rfl⟩, (fun _ _ => by kernel_rfl)⟩, fun p => h_halt p.h 0 a b c⟩
theorem does_1 (a : Nat) (b c : Int) (ha : a < 16) : Does 1 ⟨1, a, b, c⟩ 49 := ⟨⟨⟨1, rfl⟩, (fun _ _ => by kernel_rfl)⟩, fun p => h_set p.h 1 a ha b c⟩
theorem does_2 (a b : Nat) (c : Int) (ha : a < 16) (hb : b < 16) : Does 2 ⟨2, a, b, c⟩ 50 := ⟨⟨⟨2, rfl⟩, (fun _ _ => by kernel_rfl)⟩, fun p => h_move p.h 2 a ha b hb c⟩
theorem does_3 (a b c : Nat) (ha : a < 16) (hb : b < 16) (hc : c < 16) : Does 3 ⟨3, a, b, c⟩ 51 := ⟨⟨⟨3, rfl⟩, (fun _ _ => by kernel_rfl)⟩, fun p => h_add p.h 3 a ha b hb c hc⟩
theorem does_4 (a b c : Nat) (ha : a < 16) (hb : b < 16) (hc : c < 16) : Does 4 ⟨4, a, b, c⟩ 52 := ⟨⟨⟨4, rfl⟩, (fun _ _ => by kernel_rfl)⟩, fun p => h_sub p.h 4 a ha b hb c hc⟩
theorem does_5 (a b c : Nat) (ha : a < 16) (hb : b < 16) (hc : c < 16) : Does 5 ⟨5, a, b, c⟩ 53 := ⟨⟨⟨5, rfl⟩, (fun _ _ => by kernel_rfl)⟩, fun p => h_mul p.h 5 a ha b hb c hc⟩
theorem on_math {W : Wd} {ev : M} {pl : Nat} {op a b c : Int} {m : Mc} {z : Int} (h : twoB op = true) (hz : mathP op (m.reg b) (m.reg c) = z) : stepH W ev pl ⟨op, a, b, c⟩ m = .on (m.put a z) := by
  have h' : op = 3 ∨ op = 4 ∨ op = 5 ∨ op = 6 ∨ op = 7 ∨ op = 8 ∨ op = 9 := by simpa [twoB] using h
  subst hz
  rcases h' with rfl | rfl | rfl | rfl | rfl | rfl | rfl <;> rfl
theorem does_6 (a b c : Nat) (ha : a < 16) (hb : b < 16) (hc : c < 16) : Does 6 ⟨6, a, b, c⟩ 54 := by
  refine ⟨⟨⟨6, rfl⟩, (fun _ _ => by kernel_rfl)⟩, fun {b1 w x v W ev ov m} p => ?_⟩
  by_cases hz : m.reg c = 0
  · rw [on_math (z := 0) rfl (by simp [mathP, hz])]
    exact h_div_z p.h 6 a ha b hb c hc hz
  · rw [on_math (z := wrap64 ((m.reg b).tdiv (m.reg c))) rfl (by simp [mathP, hz])]
    exact h_div_n p.h 6 a ha b hb c hc hz
theorem does_7 (a b c : Nat) (ha : a < 16) (hb : b < 16) (hc : c < 16) : Does 7 ⟨7, a, b, c⟩ 55 := by
  refine ⟨⟨⟨7, rfl⟩, (fun _ _ => by kernel_rfl)⟩, fun {b1 w x v W ev ov m} p => ?_⟩
  by_cases hz : m.reg c = 0
  · rw [on_math (z := 0) rfl (by simp [mathP, hz])]
    exact h_mod_z p.h 7 a ha b hb c hc hz
  · rw [on_math (z := (m.reg b).tmod (m.reg c)) rfl (by simp [mathP, hz])]
    exact h_mod_n p.h 7 a ha b hb c hc hz
theorem does_8 (a b c : Nat) (ha : a < 16) (hb : b < 16) (hc : c < 16) : Does 8 ⟨8, a, b, c⟩ 56 := by
  refine ⟨⟨⟨8, rfl⟩, (fun _ _ => by kernel_rfl)⟩, fun {b1 w x v W ev ov m} p => ?_⟩
  by_cases hz : m.reg b < m.reg c
  · rw [on_math (z := 1) rfl (by simp [mathP, hz])]
    exact h_less_t p.h 8 a ha b hb c hc hz
  · rw [on_math (z := 0) rfl (by simp [mathP, hz])]
    exact h_less_f p.h 8 a ha b hb c hc hz
theorem does_9 (a b c : Nat) (ha : a < 16) (hb : b < 16) (hc : c < 16) : Does 9 ⟨9, a, b, c⟩ 57 := by
  refine ⟨⟨⟨9, rfl⟩, (fun _ _ => by kernel_rfl)⟩, fun {b1 w x v W ev ov m} p => ?_⟩
  by_cases hz : m.reg b = m.reg c
  · rw [on_math (z := 1) rfl (by simp [mathP, hz])]
    exact h_same_t p.h 9 a ha b hb c hc hz
  · rw [on_math (z := 0) rfl (by simp [mathP, hz])]
    exact h_same_f p.h 9 a ha b hb c hc hz
theorem does_10 (a b c : Int) : Does 10 ⟨10, a, b, c⟩ 58 := ⟨⟨⟨10, rfl⟩, (fun _ _ => by kernel_rfl)⟩, fun p => h_jump p.h 10 a b c⟩
theorem does_11 (a : Nat) (b c : Int) (ha : a < 16) : Does 11 ⟨11, a, b, c⟩ 59 := by
  refine ⟨⟨⟨11, rfl⟩, (fun _ _ => by kernel_rfl)⟩, fun {b1 w x v W ev ov m} p => ?_⟩
  have e : stepH W ev v.pl ⟨11, a, b, c⟩ m = .on (if m.reg a = 0 then { m with pc := b } else m) := rfl
  rw [e]
  by_cases hz : m.reg a = 0
  · rw [if_pos hz]; exact h_zero_t p.h 11 a ha b c hz
  · rw [if_neg hz]; exact h_zero_f p.h 11 a ha b c hz
theorem does_12 (a b c : Nat) (ha : a < 16) (hb : b < 16) (hc : c < 16) : Does 12 ⟨12, a, b, c⟩ 60 := by
  refine ⟨⟨⟨12, rfl⟩, (fun _ _ => by kernel_rfl)⟩, fun {b1 w x v W ev ov m} p => ?_⟩
  have e : stepH W ev v.pl ⟨12, a, b, c⟩ m = sendP W ev.k.t ⟨12, a, b, c⟩ m := rfl
  rw [e]
  have hll : W.links.length = v.ll := p.hw.2.1.1
  have hl := p.ll
  have ho := p.o
  unfold sendP
  simp only
  by_cases g : W.links.length = 0 ∨ 8 ≤ m.o.length
  · rw [if_pos g]
    by_cases g0 : v.ll = 0
    · exact h_send_links p.h 12 a b c g0
    · exact h_send_full p.h 12 a b c (by omega) (by omega) (by omega)
  · rw [if_neg g]
    obtain ⟨kk, hk1, hk2, -⟩ := link_of (m.reg a) v.ll (by omega)
    rw [hll, hk1, Int.toNat_natCast]
    have hlook := p.looks kk (by omega)
    cases hlk : W.links.getD kk default with
    | mk src dst look loose =>
      rw [hlk] at hlook
      simp only at hlook ⊢
      by_cases hB : m.reg b < look
      · rw [if_pos hB]
        exact h_send_look p.h 12 a b c ha hb hc p.hw (by omega) (by omega) (by omega) p.t kk hk2 hk1 src dst look loose hlk hB
      · rw [if_neg hB]
        by_cases hT : 4611686018427387903 - ev.k.t < m.reg b
        · rw [if_pos hT]
          exact h_send_time p.h 12 a b c ha hb hc p.hw (by omega) (by omega) (by omega) p.t kk hk2 hk1 src dst look loose hlk hlook hB hT
        · rw [if_neg hT]
          exact h_send_ok p.h 12 a b c ha hb hc p.hw (by omega) (by omega) (by omega) p.t kk hk2 hk1 src dst look loose hlk hlook hB hT
theorem does_13 (a b : Nat) (c : Int) (ha : a < 16) (hb : b < 16) : Does 13 ⟨13, a, b, c⟩ 61 :=
  ⟨⟨⟨13, rfl⟩, (fun _ _ => by kernel_rfl)⟩, fun p => h_draw p.h 13 a ha b hb c p.hw.2.2.1 p.d (p.r.reg b).2⟩
theorem does_14 (a : Nat) (b c : Int) (ha : a < 16) : Does 14 ⟨14, a, b, c⟩ 62 := ⟨⟨⟨14, rfl⟩, (fun _ _ => by kernel_rfl)⟩, fun p => h_value p.h 14 a ha b c⟩
theorem does_15 (a : Nat) (b c : Int) (ha : a < 16) : Does 15 ⟨15, a, b, c⟩ 63 := ⟨⟨⟨15, rfl⟩, (fun _ _ => by kernel_rfl)⟩, fun p => h_time p.h 15 a ha b c⟩
theorem does_16 (a : Nat) (b c : Int) (ha : a < 16) : Does 16 ⟨16, a, b, c⟩ 64 := ⟨⟨⟨16, rfl⟩, (fun _ _ => by kernel_rfl)⟩, fun p => h_self p.h 16 a ha b c⟩
theorem does_any (i : I) (n : Int) (hmay : mayB i n = true) : ∃ f, Does i.op i f := by
  obtain ⟨op, a, b, c⟩ := i
  have hf : fieldsB ⟨op, a, b, c⟩ n = true := by
    unfold mayB at hmay
    exact (Bool.and_eq_true _ _ ▸ hmay).2
  by_cases h0 : op = 0
  · subst h0; exact ⟨_, does_0 a b c⟩
  by_cases h1 : op = 1
  · subst h1
    obtain ⟨a', rfl, ha⟩ := reg_nat (f_1 hf)
    exact ⟨_, does_1 a' b c ha⟩
  by_cases h2 : op = 2
  · subst h2
    obtain ⟨fa, fb⟩ := f_ab hf (.inl rfl)
    obtain ⟨a', rfl, ha⟩ := reg_nat fa
    obtain ⟨b', rfl, hb⟩ := reg_nat fb
    exact ⟨_, does_2 a' b' c ha hb⟩
  by_cases h3 : op = 10
  · subst h3; exact ⟨_, does_10 a b c⟩
  by_cases h4 : op = 11
  · subst h4
    obtain ⟨a', rfl, ha⟩ := reg_nat (f_11 hf)
    exact ⟨_, does_11 a' b c ha⟩
  by_cases h5 : op = 12
  · subst h5
    obtain ⟨fa, fb, fc⟩ := f_abc hf (.inr rfl)
    obtain ⟨a', rfl, ha⟩ := reg_nat fa
    obtain ⟨b', rfl, hb⟩ := reg_nat fb
    obtain ⟨c', rfl, hc⟩ := reg_nat fc
    exact ⟨_, does_12 a' b' c' ha hb hc⟩
  by_cases h6 : op = 13
  · subst h6
    obtain ⟨fa, fb⟩ := f_ab hf (.inr rfl)
    obtain ⟨a', rfl, ha⟩ := reg_nat fa
    obtain ⟨b', rfl, hb⟩ := reg_nat fb
    exact ⟨_, does_13 a' b' c ha hb⟩
  by_cases h7 : op = 14
  · subst h7
    obtain ⟨a', rfl, ha⟩ := reg_nat (f_a hf (.inl rfl))
    exact ⟨_, does_14 a' b c ha⟩
  by_cases h8 : op = 15
  · subst h8
    obtain ⟨a', rfl, ha⟩ := reg_nat (f_a hf (.inr (.inl rfl)))
    exact ⟨_, does_15 a' b c ha⟩
  by_cases h9 : op = 16
  · subst h9
    obtain ⟨a', rfl, ha⟩ := reg_nat (f_a hf (.inr (.inr rfl)))
    exact ⟨_, does_16 a' b c ha⟩
  have htwo := f_two hf h0 h1 h2 h3 h4 h5 h6 h7 h8 h9
  obtain ⟨fa, fb, fc⟩ := f_abc hf (.inl htwo)
  obtain ⟨a', rfl, ha⟩ := reg_nat fa
  obtain ⟨b', rfl, hb⟩ := reg_nat fb
  obtain ⟨c', rfl, hc⟩ := reg_nat fc
  have h' : op = 3 ∨ op = 4 ∨ op = 5 ∨ op = 6 ∨ op = 7 ∨ op = 8 ∨ op = 9 := by simpa [twoB] using htwo
  rcases h' with rfl | rfl | rfl | rfl | rfl | rfl | rfl
  · exact ⟨_, does_3 a' b' c' ha hb hc⟩
  · exact ⟨_, does_4 a' b' c' ha hb hc⟩
  · exact ⟨_, does_5 a' b' c' ha hb hc⟩
  · exact ⟨_, does_6 a' b' c' ha hb hc⟩
  · exact ⟨_, does_7 a' b' c' ha hb hc⟩
  · exact ⟨_, does_8 a' b' c' ha hb hc⟩
  · exact ⟨_, does_9 a' b' c' ha hb hc⟩
end Go.Proofs.YtghbdpjegmdhbaaDoor
