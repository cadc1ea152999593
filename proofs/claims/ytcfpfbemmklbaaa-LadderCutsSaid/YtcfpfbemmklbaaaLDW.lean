
/-
  The law that what is put into a ladder is popped in order, each once.
-/
import Derived.Test.YtcfpfbemmklbaaaLDV
import Derived.Test.YtcfpfbemmklbaaaSortedC
import Derived.Lib.MinMax
namespace Go.Proofs.Ytcfpfbemmklbaaa
open Go.ChangeShapes Go.WideShapes Go.ChangeAt Go.Shelf Go.RowKit Go.Lib Go.Sort Go.Deep Go.Maps
set_option linter.unusedVariables false

theorem zeroM_val : zeroM.val = .agg #[.int .i64 0, .int .i64 0, .int .i64 0, .int .i64 0, .int .i64 0, .int .i64 0, .bool false] := rfl

theorem own_kept {S : Nat → Prop} {w w' : World} {base : Nat} {e : TypeId} {size : Nat} {v : Value} {n : Nat} {xs : List Value} (h : w.ownsRow base e size v n xs) (hk : KeptOff S w w') (hn : ∀ k, v.ownBlock = some k → ¬ S k) : w'.ownsRow base e size v n xs := by
  refine ⟨h.1, ?_⟩
  rcases h.2 with h0 | ⟨g, cap, cur, rfl, hb, hgg, rest⟩
  · exact .inl h0
  · exact .inr ⟨g, cap, cur, rfl, hb, (hk.block g (Array.getElem?_eq_some_iff.1 hgg).1 (hn g rfl)).trans hgg, rest⟩
theorem Calls.still_of {P : Program} {f : FuncId} {args : Array Value} {w : World} {v : Value}
    (h : Calls P f args w fun e w' => e = .returned v ∧ w = w') : Calls P f args w fun e w' => e = .returned v ∧ ∃ q os', w' = grow (w.drewN q) os' :=
  h.mono fun _ _ ⟨he, hw⟩ => ⟨he, 0, #[], by rw [← hw, grow_empty]; rfl⟩

theorem Msgs.kept {S : Nat → Prop} {w w' : World} {a : Option Addr} {len cap : Nat} {ms : List M} (h : Msgs w a len cap ms) (hk : KeptOff S w w') (hn : len = 0 ∨ ∃ b off, a = some ⟨b, off, none⟩ ∧ ¬ S b) : Msgs w' a len cap ms := by
  obtain ⟨h1, h2, h3, hf, h4⟩ := h
  refine ⟨h1, h2, h3, hf, ?_⟩
  rcases h4 with h0 | ⟨b, off, rfl, hm⟩
  · exact .inl h0
  · rcases hn with h0 | ⟨b', off', e, hb⟩
    · exact .inl h0
    · cases e
      refine .inr ⟨b, off, rfl, fun i hi => ?_⟩
      obtain ⟨hlt, c0, c1, c2, c3, c4, c5, c6⟩ := hm i hi
      have hc : ∀ {c : Nat} {v : Value}, w.cell? ⟨b, c, none⟩ = some v → w'.cell? ⟨b, c, none⟩ = some v := fun h => (World.cell?_of_block (hk.block b hlt hb)).trans h
      exact ⟨Nat.lt_of_lt_of_le hlt hk.size, hc c0, hc c1, hc c2, hc c3, hc c4, hc c5, hc c6⟩

/-- The k-th message with a number of its own. -/
def nthU (ms : List M) (k : Nat) : M := { ms.getD k default with u := (k : Int) }
def inU (ms : List M) (k : Nat) : List M := (List.range k).map (nthU ms)
theorem inU_succ (ms : List M) (k : Nat) : inU ms (k + 1) = inU ms k ++ [nthU ms k] := by simp [inU, List.range_succ]
theorem inU_length (ms : List M) (k : Nat) : (inU ms k).length = k := by simp [inU]
theorem inU_mem {ms : List M} {k : Nat} {m : M} (h : m ∈ inU ms k) : ∃ i, i < k ∧ m = nthU ms i := by
  simp only [inU, List.mem_map, List.mem_range] at h
  obtain ⟨i, hi, rfl⟩ := h
  exact ⟨i, hi, rfl⟩
theorem inU_new (ms : List M) (k : Nat) (f : Int) : hasS (stab ltM (inU ms k)) f (k : Int) = false := by
  rw [hasS_perm (stab_perm _)]
  cases h : hasS (inU ms k) f (k : Int) with
  | false => rfl
  | true =>
    obtain ⟨m, hm, _, hu⟩ := hasS_iff.1 h
    obtain ⟨i, hi, rfl⟩ := inU_mem hm
    simp [nthU] at hu
    omega
theorem nthU_fits {ms : List M} (hf : ∀ m ∈ ms, m.fits) (k : Nat) (hk : k < ms.length) (h5 : k < 500) : (nthU ms k).fits := by
  have hm : (ms.getD k default).fits := hf _ (by rw [List.getD_eq_getElem?_getD, List.getElem?_eq_getElem hk]; exact List.getElem_mem hk)
  refine ⟨hm.1, hm.2.1, hm.2.2.1, ?_⟩
  show (Lit.int .i64 (k : Int)).wf = true
  exact WalkArith.wf_i64 (by omega)
theorem inU_fits {ms : List M} (hf : ∀ m ∈ ms, m.fits) (k : Nat) (hk : k ≤ ms.length) (h5 : k ≤ 500) : ∀ m ∈ inU ms k, m.fits := by
  intro m hm
  obtain ⟨i, hi, rfl⟩ := inU_mem hm
  exact nthU_fits hf i (by omega) (by omega)
/-- What stands behind k rounds of the filling loop. -/
def Filled (w wr : World) (ms : List M) (k : Nat) (inv : Value) : Prop :=
  ∃ S, CalAt wr (w.heap.size + 2) S (stab ltM (inU ms k)) ∧ wr.ownsRow w.heap.size 34 7 inv k (flat (inU ms k)) ∧ (∀ g, inv.ownBlock = some g → ¬ S g) ∧ (∀ x, S x → w.heap.size ≤ x) ∧ Below w.heap.size w wr
/-- One more is appended and pushed. -/
theorem filled_step {w wr : World} {ms : List M} {k : Nat} {inv : Value} (h : Filled w wr ms k inv) (hf : (nthU ms k).fits) (hk : k < 500) :
    ∀ w3 inv', KeptOff (fun x => inv.ownBlock = some x) wr w3 → w3.ownsRow w.heap.size 34 7 inv' (k + 1) (flat (inU ms k) ++ flat [nthU ms k]) → (inv'.ownBlock = inv.ownBlock ∨ ∃ g, inv'.ownBlock = some g ∧ wr.heap.size ≤ g) →
      Calls Try.prog 15 #[.pointer (some ⟨w.heap.size + 2, 0, none⟩), (nthU ms k).val] w3 fun e w' => e = .returned (.int .i64 0) ∧ Filled w w' ms (k + 1) inv' := by
  obtain ⟨S, hQ, hI, hd, hS, hB⟩ := h
  intro w3 inv' hk3 ho hl
  have hrl := hI.lt
  have hQ3 := hQ.kept hk3 (fun x hx e => hd x e hx)
  have hnew := inU_new ms k (nthU ms k).k.f
  have hB3 : Below w.heap.size w w3 := hB.trans (hk3.below (fun x _ e => (hrl x e).1) hB.size)
  refine (hPush_takes hQ3 (nthU ms k) hf hnew (by rw [stab_length, inU_length]; omega)).mono ?_
  rintro e w' ⟨he, S', hQ', hst⟩
  have hne : ∀ g, inv'.ownBlock = some g → ¬ S g := by
    intro g hg hs
    rcases hl with e2 | ⟨g2, e2, hg2⟩
    · exact hd g (e2 ▸ hg) hs
    · have := hQ.lt hs
      rw [hg] at e2
      cases e2
      omega
  have hsb := hst.belowB hS hB3.size
  refine ⟨he, S', ?_, ?_, ?_, hsb.2, hB3.trans hsb.1⟩
  · rw [inU_succ, stab_snoc]
    exact hQ'
  · rw [inU_succ, flat_append]
    exact own_kept ho hst.1 (fun x hx e => hne x hx e)
  · intro g hg e
    rcases hst.2 g e with e2 | e2
    · exact hne g hg e2
    · have := (ho.lt g hg).2
      omega
theorem Msgs.lt_of {w : World} {a : Option Addr} {len cap : Nat} {T : List M} (h : Msgs w a len cap T) (b : Nat) (e : a = some ⟨b, 0, none⟩) (h0 : 0 < len) : b < w.heap.size := by
  rcases h.2.2.2.2 with h1 | ⟨b', off', e', hm⟩
  · omega
  · rw [e] at e'
    cases e'
    exact (hm 0 h0).1
/-- What stands behind k rounds of the emptying loop. -/
def Emptied (w wr : World) (T : List M) (k : Nat) (a : Option Addr) (len cap : Nat) : Prop :=
  ∃ S, CalAt wr (w.heap.size + 2) S (T.drop k) ∧ Msgs wr a len cap T ∧ (len = 0 ∨ ∃ b, a = some ⟨b, 0, none⟩ ∧ ¬ S b) ∧ (∀ x, S x → w.heap.size ≤ x) ∧ Below w.heap.size w wr
theorem emptied_step {w wr : World} {T : List M} {k : Nat} {a : Option Addr} {len cap : Nat} (h : Emptied w wr T k a len cap) (hk : k < T.length) :
    Calls Try.prog 17 #[.pointer (some ⟨w.heap.size + 2, 0, none⟩)] wr fun e w' => e = .returned (.tuple #[(T.getD k default).val, .int .i64 0]) ∧ Emptied w w' T (k + 1) a len cap := by
  obtain ⟨S, hQ, hM, ha, hS, hB⟩ := h
  have e1 : T.drop k = T.getD k default :: T.drop (k + 1) := by
    rw [List.drop_eq_getElem_cons hk]
    simp [List.getD_eq_getElem?_getD, hk]
  rw [e1] at hQ
  refine (hPop_some hQ).mono ?_
  rintro e w' ⟨he, S', hQ', hst⟩
  have hsb := hst.belowB hS hB.size
  exact ⟨he, S', hQ', hM.kept hst.1 (ha.imp id (fun ⟨b, e, h⟩ => ⟨b, 0, e, h⟩)), ha.elim .inl (fun ⟨b, e, h⟩ => (Nat.eq_zero_or_pos len).imp id (fun h0 => ⟨b, e, fun hs => (hst.2 b hs).elim h (fun e2 => by have := hM.lt_of b e h0; omega)⟩)), hsb.2, hB.trans hsb.1⟩

/-- How many are put in. -/
theorem min_len (n : Nat) : min (n : Int) 500 = ((min n 500 : Nat) : Int) := by omega

set_option maxHeartbeats 4000000 in
set_option maxRecDepth 100000 in
theorem lawLadderOrder_wide (Wd : Int) (hWf : (Lit.int .i64 Wd).wf = true) (hWd : 1 ≤ Wd ∧ Wd ≤ 16384) {w : World} {a : Option Addr} {len cap : Nat} {ms : List M} (h : Msgs w a len cap ms) (hr : len * 56 ≤ 140737488351232) :
    Calls Try.prog 4 #[.int .i64 Wd, .slice a len cap] w fun e w' => e = .returned (.bool true) ∧ Below w.heap.size w w' := by
  obtain ⟨i0, hi, hz0, hz1, hz2⟩ := info_parts infoM
  have mixed := mixed
  have hnew := hNew_any w hWd hWf
  have hlen := Lib.hid h.1
  have hfit := Lib.hid h.2.2.2.1
  have hmx : len ≤ 9223372036854775807 := by have h1 := h.2.1; have h2 := h.2.2.1; unfold maxLen at h2; omega
  obtain ⟨nn, hnn⟩ : ∃ nn, nn = min len 500 := ⟨_, rfl⟩
  have hm : min (len : Int) 500 = (nn : Int) := by rw [hnn]; omega
  have hnn' : nn ≤ len ∧ nn ≤ 500 := by omega
  obtain ⟨hn1, hn2⟩ := hnn'
  have h' := Lib.hid h
  clear h hnn
  go_enter Try.func4, Try.ntmps4
  go_wp2_with (go_at_call 8; refine hnew.mono ?_; rintro e w1 ⟨rfl, hQ1'⟩)
  have hF0 : Hid (Filled w w1 ms 0 (.slice none 0 0)) := ⟨newS w, hQ1'.out.1, World.ownsRow_nil _ _ _ _, (fun g hg => by cases hg), (fun x e => e.1), hQ1'.out.2⟩
  go_loopw [9, 8] (fun s6 s5 wr => ∃ (k : Nat) (ia : Option Addr) (ic : Nat), k ≤ nn ∧ s6 = .int .i64 k ∧ s5 = .slice ia k ic ∧ Hid (Filled w wr ms k (.slice ia k ic))) (fun s6 _ _ => nn - (intOf s6).toNat)
  case atStart => exact ⟨0, none, 0, Nat.zero_le _, rfl, rfl, hF0⟩
  case round =>
    obtain ⟨k, ia, ic, hk, rfl, rfl, hF⟩ := hrel
    clear hF0
    by_cases hkn : k < nn
    · have hz : (k : Int) < (nn : Int) := by omega
      obtain ⟨b, off, rfl, hma⟩ : ∃ b off, a = some ⟨b, off, none⟩ ∧ ∀ i, i < len → MsgAt w b (off + i * 7) (ms.getD i default) := by
        rcases h'.out.2.2.2.2 with h0 | hx
        · omega
        · exact hx
      have hmk := (hma k (by omega)).below hF.out.choose_spec.2.2.2.2
      have hkl : k < len := by omega
      have hnk : Hid (nthU ms k = { ms.getD k default with u := (k : Int) }) := rfl
      generalize ms.getD k default = m at hmk hnk
      obtain ⟨⟨t, f, s⟩, tt, vv, u, an⟩ := m
      obtain ⟨-, x0, x1, x2, x3, x4, x5, x6⟩ := hmk
      simp only at x0 x1 x2 x3 x4 x5 x6 hnk
      clear hma
      go_upto_region 11 with (fail)
      have hbx := BoxM.mk wr ⟨⟨t, f, s⟩, tt, vv, (k : Int), an⟩
      have hk2 : KeptOff (fun _ => False) wr (wr.alloc (.cells #[.int .i64 t, .int .i64 f, .int .i64 s, .int .i64 tt, .int .i64 vv, .int .i64 (k : Int), .bool an] 34)) := .of_below ((Below.refl _ wr).alloc (Nat.le_refl _) _)
      have hF1 := hF.out
      obtain ⟨S, hQ, hI, hd, hS, hB⟩ := hF1
      have hI2 := own_kept hI hk2 (fun _ _ e => e)
      have hbx : BoxM (wr.alloc (.cells #[.int .i64 t, .int .i64 f, .int .i64 s, .int .i64 tt, .int .i64 vv, .int .i64 (k : Int), .bool an] 34)) wr.heap.size ⟨⟨t, f, s⟩, tt, vv, (k : Int), an⟩ := hbx
      have hbase := hB.size
      have hbd3 := hQ.lt hQ.own
      have hrl := hI.lt
      generalize hBx : wr.heap.size = Bx at hbx hk2 hbase hbd3 hrl ⊢
      have hBx' := Lib.hid hBx
      generalize wr.alloc (.cells #[.int .i64 t, .int .i64 f, .int .i64 s, .int .i64 tt, .int .i64 vv, .int .i64 (k : Int), .bool an] 34) = W2 at *
      have hW2 := hbx.lt
      obtain ⟨-, y0, y1, y2, y3, y4, y5, y6⟩ := hbx.at
      simp only [Nat.zero_add] at y0 y1 y2 y3 y4 y5 y6
      have hI2' := Lib.hid hI2
      have hQ2 := Lib.hid (And.intro hbx (And.intro hk2 hrl))
      have hnf := Lib.hid (nthU_fits hfit.out k (by rw [hlen.out]; omega) (by omega))
      clear hI2 hbx hk2 hQ hI hd hB hrl x0 x1 x2 x3 x4 x5 x6 hBx hS
      go_upto_region 12 with ((at_builtin; refine wpList_append_lies _ rfl (.tmp 47) (.tmp 49) 38 rfl w.heap.size 34 i0 _ 7 56 Try.underlying38 hi hz0 hz1 hz2 rfl (by omega) (.slice ia k ic) k (flat (inU ms k)) rfl (hI2'.out.alloc _) ⟨W2.heap.size, 0, none⟩ 1 1 (flat [⟨⟨t, f, s⟩, tt, vv, (k : Int), an⟩]) rfl rfl (World.news_of_block (cs := (M.cells ⟨⟨t, f, s⟩, tt, vv, (k : Int), an⟩)) (t := 34) (fr := (0, 0)) (heap_alloc_new W2 _)) (flat_one _) (by omega) (by unfold maxLen; omega) (by omega) (by simp; omega) _ rfl ?_; intro gg ic' w4 hown4 hgrow hat hlt4; have hQ4 := Lib.hid (And.intro hown4 (And.intro hgrow (And.intro hat hlt4))); clear hown4 hgrow hat hlt4))
      obtain ⟨hown4, hgrow, hat, hlt4⟩ := hQ4.out
      obtain ⟨hbx, hk2, hrl⟩ := hQ2.out
      have hk4 : KeptOff (fun x => (Value.slice ia k ic).ownBlock = some x) wr w4 := ((hk2.mono (fun _ _ e => e.elim)).trans (KeptOff.of_below ((Below.refl _ W2).alloc (Nat.le_refl _) _))).trans (KeptOff.of_grown hgrow)
      have hbx4 : BoxM w4 Bx ⟨⟨t, f, s⟩, tt, vv, (k : Int), an⟩ := (hbx.kept (S := fun _ => False) (.of_below ((Below.refl _ W2).alloc (Nat.le_refl _) _)) (fun e => e)).kept (KeptOff.of_grown hgrow) (fun e => by have := (hrl _ e).2; omega)
      have hps := filled_step hF.out hnf.out (by omega) w4 (.slice (some ⟨gg, 0, none⟩) (k + 1) ic') hk4 (by rw [hnk.out]; exact hown4) (by
        rcases hat with e | e
        · exact .inl e.symm
        · refine .inr ⟨gg, rfl, ?_⟩
          have := hBx'.out
          simp at e
          omega)
      rw [hnk.out] at hps
      simp only [M.val] at hps
      obtain ⟨-, z0, z1, z2, z3, z4, z5, z6⟩ := hbx4.at
      simp only [Nat.zero_add] at z0 z1 z2 z3 z4 z5 z6
      have hps' := Lib.hid hps
      clear hown4 hgrow hat hlt4 hbx hk2 hrl hk4 hbx4 hps hQ4 hQ2 hI2' y0 y1 y2 y3 y4 y5 y6 hnf hF
      go_wp2_with (go_at_call 15; refine hps'.out.mono ?_; rintro e w5 ⟨rfl, hF5⟩; have hF5' := Lib.hid hF5; clear hF5)
      go_roundw
      case rel => exact ⟨k + 1, some ⟨gg, 0, none⟩, ic', by omega, by go_num, rfl, hF5'⟩
      case measure => simp [intOf]; omega
    · obtain rfl : k = nn := by omega
      have hz : ¬ (k : Int) < (k : Int) := by omega
      obtain ⟨S, hQ, hI, hd, hS, hB⟩ := hF.out
      obtain ⟨ia', ic', he, hM⟩ := msgs_of_own hI (inU_fits hfit.out k (by rw [hlen.out]; omega) (by omega))
      cases he
      have hso := eSorted_new hM (by omega)
      have hv0 : ∀ g, S g → g < wr.heap.size := fun g hg => hQ.lt hg
      obtain ⟨T, hT⟩ : ∃ T, T = stab ltM (inU ms k) := ⟨_, rfl⟩
      have hTl : Hid (T.length = k) := by show _ = _; rw [hT, stab_length, inU_length]
      have hTf : Hid (∀ m ∈ T, m.fits) := fun m hm' => hQ.fits m (hT ▸ hm')
      rw [← hT] at hQ hso
      have hso' : Hid (Calls Try.prog 16 #[.slice ia k ic] wr fun e w' => ∃ a' cap', e = .returned (.slice a' k cap') ∧ Aside (Emptied w w' T 0 a' k cap')) := by
        refine hso.mono ?_
        rintro e w' ⟨a', cap', he, hq⟩
        obtain ⟨⟨h1, h2⟩, h3⟩ := hq.out
        refine ⟨a', cap', he, S, ?_, h1, ?_, hS, hB.trans (h2.mono hB.size)⟩
        · exact hQ.below h2
        · rcases h3 with h0 | ⟨b, hb, hb2⟩
          · exact .inl h0
          · exact .inr ⟨b, hb, fun e => by have := hv0 b e; omega⟩
      clear hQ hI hd hB hM hso hv0 hT hF hS hk
      have hk5 : k ≤ 500 := hn2
      go_wp2_with (go_at_call 16; refine hso'.out.mono ?_; rintro e w2 ⟨a', cap', rfl, hE⟩)
      go_loopw [12] (fun s9 wr => ∃ j : Nat, j ≤ k ∧ s9 = .int .i64 j ∧ Aside (Emptied w wr T j a' k cap')) (fun s9 _ => k - (intOf s9).toNat)
      case atStart => exact ⟨0, Nat.zero_le _, rfl, hE⟩
      case round =>
        clear hE
        obtain ⟨j, hj, rfl, hE⟩ := hrel
        by_cases hjk : j < k
        · have hz : (j : Int) < (k : Int) := by omega
          have hps := emptied_step hE.out (by rw [hTl.out]; exact hjk)
          have hdl : Hid ((T.drop (j + 1)).length = k - (j + 1)) := by show _ = _; rw [List.length_drop, hTl.out]
          have hjT : Hid (j < T.length) := by show _ < _; rw [hTl.out]; exact hjk
          obtain ⟨m, hm'⟩ : ∃ m, m = T.getD j default := ⟨_, rfl⟩
          rw [← hm'] at hps
          have hmT := Lib.hid hm'
          clear hm' hE
          have hneq := fun w => neqM m m w
          simp only [decide_true, Bool.not_true] at hneq
          obtain ⟨⟨t, f, s⟩, tt, vv, u, an⟩ := m
          simp only [M.val] at hneq hps
          have hps' := Lib.hid hps
          clear hps
          go_upto_region 19 with (go_at_call 17; refine hps'.out.mono ?_; rintro e w5 ⟨rfl, hE5⟩; have hE5' := Lib.hid hE5; clear hE5)
          have hbx := BoxM.mk w5 ⟨⟨t, f, s⟩, tt, vv, u, an⟩
          have hE6 : Hid (Emptied w (w5.alloc (.cells #[.int .i64 t, .int .i64 f, .int .i64 s, .int .i64 tt, .int .i64 vv, .int .i64 u, .bool an] 34)) T (j + 1) a' k cap') := by
            obtain ⟨v, q1, q2, q3, q4, q5⟩ := hE5'.out
            have hb6 : Below w5.heap.size w5 (w5.alloc (.cells #[.int .i64 t, .int .i64 f, .int .i64 s, .int .i64 tt, .int .i64 vv, .int .i64 u, .bool an] 34)) := (Below.refl _ w5).alloc (Nat.le_refl _) _
            exact ⟨v, q1.below hb6, q2.below hb6, q3, q4, q5.trans (hb6.mono q5.size)⟩
          generalize hBx : w5.heap.size = Bx at *
          have hbx : BoxM (w5.alloc (.cells #[.int .i64 t, .int .i64 f, .int .i64 s, .int .i64 tt, .int .i64 vv, .int .i64 u, .bool an] 34)) Bx ⟨⟨t, f, s⟩, tt, vv, u, an⟩ := hbx
          generalize w5.alloc (.cells #[.int .i64 t, .int .i64 f, .int .i64 s, .int .i64 tt, .int .i64 vv, .int .i64 u, .bool an] 34) = W6 at *
          obtain ⟨b2, o2, ha2, hat⟩ : ∃ b2 o2, a' = some ⟨b2, o2, none⟩ ∧ MsgAt W6 b2 (o2 + j * 7) ⟨⟨t, f, s⟩, tt, vv, u, an⟩ := by
            obtain ⟨v, q1, q2, q3, q4, q5⟩ := hE6.out
            rcases q2.2.2.2.2 with h0 | ⟨b2, o2, e2, hm2⟩
            · omega
            · exact ⟨b2, o2, e2, by rw [hmT.out]; exact hm2 j (by omega)⟩
          have hcapk : k ≤ cap' ∧ cap' ≤ 9223372036854775807 := by
            obtain ⟨v, q1, q2, q3, q4, q5⟩ := hE6.out
            exact ⟨q2.2.1, by have := q2.2.2.1; unfold maxLen at this; omega⟩
          obtain ⟨hcapk1, hcapk2⟩ := hcapk
          have hln : ∀ n os, Calls Try.prog 11 #[.pointer (some ⟨w.heap.size + 2, 0, none⟩)] (grow (W6.drewN n) os) fun e w' => e = .returned (.int .i64 ((k : Int) - (j : Int) - 1)) ∧ ∃ q os', w' = grow ((grow (W6.drewN n) os).drewN q) os' := by
            intro n os
            obtain ⟨v, q1, q2, q3, q4, q5⟩ := hE6.out
            have := Calls.still_of (hLen_any (q1.below (w' := grow (W6.drewN n) os) (Read.below ⟨n, os, rfl⟩)))
            rw [hdl.out, show ((k - (j + 1) : Nat) : Int) = (k : Int) - (j : Int) - 1 by omega] at this
            exact this
          subst ha2
          have hxa := fun n os => hbx.at.read ⟨n, os, rfl⟩
          have hya := fun n os => hat.read ⟨n, os, rfl⟩
          simp only [MsgAt, forall_and, Nat.zero_add] at hxa hya
          obtain ⟨-, x0, x1, x2, x3, x4, x5, x6⟩ := hxa
          obtain ⟨-, y0, y1, y2, y3, y4, y5, y6⟩ := hya
          have a1 : IntKind.i64.wrap ((k : Int) - (j : Int)) = (k : Int) - (j : Int) := IntWalk.i64_in _ (by omega)
          have a2 : IntKind.i64.wrap ((k : Int) - (j : Int) - 1) = (k : Int) - (j : Int) - 1 := IntWalk.i64_in _ (by omega)
          have hz2 : (j : Int) < (k : Int) := hz
          clear hbx hat hps' hE5' hBx
          refine wp_region_quiet_grown (by assumption) (by kernel_rfl) ?_
          repeat (first | go_big_quiet_step ((go_at_call 11; exact Calls.grown_of (hln _ _))) | quiet_step ((go_at_call 11; exact Calls.grown_of (hln _ _))))
          refine wpQuiet_nil ?_
          intro _ hw'
          obtain ⟨⟨nq, osq⟩, hw''⟩ := hw'
          subst hw''
          have hE7 : Aside (Emptied w (grow (W6.drewN nq) osq) T (j + 1) (some ⟨b2, o2, none⟩) k cap') := by
            obtain ⟨v, q1, q2, q3, q4, q5⟩ := hE6.out
            have hb7 : Below W6.heap.size W6 (grow (W6.drewN nq) osq) := Read.below ⟨nq, osq, rfl⟩
            exact ⟨v, q1.below hb7, q2.below hb7, q3, q4, q5.trans (hb7.mono q5.size)⟩
          clear x0 x1 x2 x3 x4 x5 x6 y0 y1 y2 y3 y4 y5 y6 hln hE6 a1 a2
          generalize grow (W6.drewN nq) osq = W7 at hE7 ⊢
          go_wp2
          go_roundw
          case rel => exact ⟨j + 1, by omega, by go_num, hE7⟩
          case measure => simp [intOf]; omega
        · obtain rfl : j = k := by omega
          have hz : ¬ (j : Int) < (j : Int) := by omega
          have hpo : Hid (Calls Try.prog 17 #[.pointer (some ⟨w.heap.size + 2, 0, none⟩)] wr fun e w' => e = .returned (.tuple #[zeroM.val, .int .i64 6]) ∧ Below w.heap.size w w') := by
            obtain ⟨v, hQ, _, _, _, hB⟩ := hE.out
            rw [List.drop_of_length_le (by rw [hTl.out]; exact Nat.le_refl _)] at hQ
            exact (hPop_none hQ).mono fun e w' h => ⟨h.1, hB.trans (h.2.mono hB.size)⟩
          rw [zeroM_val] at hpo
          clear hE
          go_wp2_with (go_at_call 17; refine hpo.out.mono ?_; rintro e w5 ⟨rfl, hb5⟩; have hb5' := Lib.hid hb5; clear hb5)
          go_ret
          refine ⟨rfl, ?_⟩
          refine Below.alloc hb5'.out hb5'.out.size _
set_option maxHeartbeats 1000000 in
theorem lawLadderOrder (Wd : Int) (hWf : (Lit.int .i64 Wd).wf = true) {w : World} {a : Option Addr} {len cap : Nat} {ms : List M} (h : Msgs w a len cap ms) (hr : len * 56 ≤ 140737488351232) :
    Calls Try.prog 4 #[.int .i64 Wd, .slice a len cap] w fun e w' => e = .returned (.bool true) ∧ Below w.heap.size w w' := by
  by_cases hWd : 1 ≤ Wd ∧ Wd ≤ 16384
  · exact lawLadderOrder_wide Wd hWf hWd h hr
  · rcases (by omega : Wd < 1 ∨ 16384 < Wd) with hW1 | hW1
    · have hWx := hW1
      have hnew := hNew_no w (W := Wd) (by omega)
      have haw := awake8_any w
      clear h hWd hWf hr
      go_enter Try.func4, Try.ntmps4
      go_wp2_with (first
        | (go_at_call 8; refine hnew.mono ?_; rintro e w1 ⟨rfl, rfl⟩))
      go_ret
      exact ⟨rfl, Below.refl _ _⟩
    · have hWx : ¬ Wd < 1 := by omega
      have hnew := hNew_no w (W := Wd) (by omega)
      have haw := awake8_any w
      clear h hWd hWf hr
      go_enter Try.func4, Try.ntmps4
      go_wp2_with (first
        | (go_at_call 8; refine hnew.mono ?_; rintro e w1 ⟨rfl, rfl⟩)
        | (go_at_call 14; refine haw.mono ?_; rintro e w2 ⟨rfl, hb2⟩; have hb2' := Lib.hid hb2; clear hb2))
      go_ret
      exact ⟨rfl, hb2'.out⟩
end Go.Proofs.Ytcfpfbemmklbaaa
