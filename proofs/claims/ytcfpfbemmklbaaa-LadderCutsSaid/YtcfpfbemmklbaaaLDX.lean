
/-
  The law that a message that is cut out of a ladder is the one of its sending, and all others stay.
-/
import Derived.Test.YtcfpfbemmklbaaaLDW
import Derived.Test.YtcfpfbemmklbaaaSame
import Derived.LoopTactic
namespace Go.Proofs.Ytcfpfbemmklbaaa
open Go.ChangeShapes Go.WideShapes Go.ChangeAt Go.Shelf Go.RowKit Go.Lib Go.Sort Go.Deep Go.Maps
set_option linter.unusedVariables false

/-- Two ladders, the first of A, the second of P; beside both a box that holds o. -/
def Duo (w wr : World) (Bp Bo n : Nat) (A P : List M) (o : M) : Prop :=
  ∃ S S2, CalAt wr (w.heap.size + 2) S A ∧ CalAt wr (Bp + 2) S2 P ∧ (∀ g, S g → ¬ S2 g) ∧ ¬ S Bo ∧ ¬ S2 Bo ∧ BoxM wr Bo o ∧ Below w.heap.size w wr ∧ (∀ g, S g → w.heap.size ≤ g) ∧ (∀ g, S2 g → w.heap.size ≤ g) ∧ w.heap.size ≤ Bo
section
variable {w wr w' w2 : World} {Bp Bo n n' Bm : Nat} {A P : List M} {o o' m a : M}
theorem Duo.bx (h : Duo w wr Bp Bo n A P o) : BoxM wr Bo o := by
  obtain ⟨S, S2, h1, h2, h3, h4, h5, h6, h7⟩ := h
  exact h6
theorem Duo.b (h : Duo w wr Bp Bo n A P o) : Below w.heap.size w wr := by
  obtain ⟨S, S2, h1, h2, h3, h4, h5, h6, h7, h8⟩ := h
  exact h7
theorem Duo.below (h : Duo w wr Bp Bo n A P o) (hb : Below wr.heap.size wr w') : Duo w w' Bp Bo n A P o := by
  obtain ⟨S, S2, h1, h2, h3, h4, h5, h6, h7, h8⟩ := h
  exact ⟨S, S2, h1.below hb, h2.below hb, h3, h4, h5, h6.below hb, h7.trans (hb.mono h7.size), h8⟩
theorem Duo.mono (h : Duo w wr Bp Bo n A P o) (hn : n ≤ n') : Duo w wr Bp Bo n' A P o := h
/-- The box rewritten. -/
theorem Duo.box (h : Duo w wr Bp Bo n A P o) (hk : KeptOff (fun k => k = Bo) wr w') (hb : BoxM w' Bo o') : Duo w w' Bp Bo n A P o' := by
  obtain ⟨S, S2, h1, h2, h3, h4, h5, h6, h7, h8, h9, h10⟩ := h
  exact ⟨S, S2, h1.kept hk (fun k e hh => h4 (hh ▸ e)), h2.kept hk (fun k e hh => h5 (hh ▸ e)), h3, h4, h5, hb, h7.trans (hk.below (fun k _ e => by omega) h7.size), h8, h9, h10⟩
/-- A push into the first. -/
theorem Duo.pushQ (h : Duo w wr Bp Bo n A P o) (hb : Below wr.heap.size wr w2) (hm : BoxM w2 Bm m) (hB : wr.heap.size ≤ Bm) (hf : m.fits) (hn : hasS A m.k.f m.u = false) (hl : A.length < 16384) :
    Calls Try.prog 15 #[.pointer (some ⟨w.heap.size + 2, 0, none⟩), m.val] w2 fun e w' => e = .returned (.int .i64 0) ∧ Hid (BoxM w' Bm m ∧ Duo w w' Bp Bo (n + 1) (mg ltM A [m]) P o) := by
  obtain ⟨S, S2, h1, h2, h3, h4, h5, h6, h7, h8, h9, h10⟩ := h
  have hs2 := hb.size
  have hbo := h6.lt
  refine (hPush_takes (h1.below hb) m hf hn hl).mono ?_
  rintro e w' ⟨he, S', hq', hst⟩
  have h7' := h7.trans (hb.mono h7.size)
  have hsb := hst.belowB h8 h7'.size
  refine ⟨he, hm.kept hst.1 (fun e => by have := h1.lt e; omega), S', S2, hq', (h2.below hb).kept hst.1 (fun k e e2 => h3 k e2 e), fun g hg e => ?_, fun e => ?_, h5, (h6.below hb).kept hst.1 h4, h7'.trans hsb.1, hsb.2, h9, h10⟩
  · rcases hst.2 g hg with e2 | e2
    · exact h3 g e2 e
    · have := h2.lt e; omega
  · rcases hst.2 Bo e with e2 | e2
    · exact h4 e2
    · omega
/-- A push into the second. -/
theorem Duo.pushP (h : Duo w wr Bp Bo n A P o) (hf : m.fits) (hn : hasS P m.k.f m.u = false) (hl : P.length < 16384) :
    Calls Try.prog 15 #[.pointer (some ⟨Bp + 2, 0, none⟩), m.val] wr fun e w' => e = .returned (.int .i64 0) ∧ Hid (Duo w w' Bp Bo (n + 1) A (mg ltM P [m]) o) := by
  obtain ⟨S, S2, h1, h2, h3, h4, h5, h6, h7, h8, h9, h10⟩ := h
  have hbo := h6.lt
  refine (hPush_takes h2 m hf hn hl).mono ?_
  rintro e w' ⟨he, S', hq', hst⟩
  have hsb := hst.belowB h9 h7.size
  refine ⟨he, S, S', h1.kept hst.1 h3, hq', fun g hg e => ?_, h4, fun e => ?_, h6.kept hst.1 h5, h7.trans hsb.1, h8, hsb.2, h10⟩
  · rcases hst.2 g e with e2 | e2
    · exact h3 g hg e2
    · have := h1.lt hg; omega
  · rcases hst.2 Bo e with e2 | e2
    · exact h5 e2
    · omega
/-- A cut of what is there out of the first. -/
theorem Duo.cutQ (h : Duo w wr Bp Bo n A P o) (ha : a ∈ A) (hf : a.fits) (hAP : ∀ i (hi : i < A.length), A[i] = a → A.eraseIdx i = P) :
    Calls Try.prog 18 #[.pointer (some ⟨w.heap.size + 2, 0, none⟩), .int .i64 a.k.f, .int .i64 a.u] wr fun e w' => e = .returned (.tuple #[a.val, .int .i64 0]) ∧ Hid (Duo w w' Bp Bo n P P o) := by
  obtain ⟨S, S2, h1, h2, h3, h4, h5, h6, h7, h8, h9, h10⟩ := h
  obtain ⟨i, hi, ea⟩ := List.getElem_of_mem ha
  have hp : (a :: A.eraseIdx i).Perm A := by
    have := erase_perm hi
    rwa [ea] at this
  rw [hAP i hi ea] at hp
  refine (hCut_some h1 hp h2.o).mono ?_
  rintro e w' ⟨he, S', hq', hst⟩
  have hsb := hst.belowB h8 h7.size
  have hbo := h6.lt
  refine ⟨he, S', S2, hq', h2.kept hst.1 (fun k e e2 => h3 k e2 e), fun g hg e => ?_, fun e => ?_, h5, h6.kept hst.1 h4, h7.trans hsb.1, hsb.2, h9, h10⟩
  · rcases hst.2 g hg with e2 | e2
    · exact h3 g e2 e
    · have := h2.lt e; omega
  · rcases hst.2 Bo e with e2 | e2
    · exact h4 e2
    · omega
end

/-- The messages without the one at k. -/
def outU (ms : List M) (k i : Nat) : List M := (inU ms i).filter fun m => !decide (m.u = (k : Int))
theorem outU_mem {ms : List M} {k i : Nat} {m : M} (h : m ∈ outU ms k i) : ∃ j, j < i ∧ m = nthU ms j := inU_mem (List.mem_filter.1 h).1
theorem outU_succ (ms : List M) (k i : Nat) : outU ms k (i + 1) = if i = k then outU ms k i else outU ms k i ++ [nthU ms i] := by
  unfold outU
  rw [inU_succ, List.filter_append]
  by_cases h : i = k
  · subst h
    simp [nthU]
  · have : ¬ ((i : Int) = (k : Int)) := by omega
    simp [nthU, this, h]
theorem outU_new (ms : List M) (k i : Nat) (f : Int) : hasS (stab ltM (outU ms k i)) f (i : Int) = false := by
  rw [hasS_perm (stab_perm _)]
  cases h : hasS (outU ms k i) f (i : Int) with
  | false => rfl
  | true =>
    obtain ⟨m, hm, _, hu⟩ := hasS_iff.1 h
    obtain ⟨j, hj, rfl⟩ := outU_mem hm
    simp [nthU] at hu
    omega
theorem outU_length (ms : List M) (k i : Nat) : (outU ms k i).length ≤ i := by
  have := List.length_filter_le (fun m : M => !decide (m.u = (k : Int))) (inU ms i)
  rw [inU_length] at this
  exact this
theorem inU_unlike (ms : List M) : ∀ i, Unlike (inU ms i)
  | 0 => List.Pairwise.nil
  | i + 1 => by
    rw [inU_succ]
    refine unlike_snoc (inU_unlike ms i) ?_
    rw [← hasS_perm (stab_perm _)]
    exact inU_new ms i _
theorem inU_has (ms : List M) {k i : Nat} (h : k < i) : nthU ms k ∈ stab ltM (inU ms i) := (stab_perm _).mem_iff.2 (by simp [inU]; exact ⟨k, h, rfl⟩)
/-- What is left of the queue is the other queue. -/
theorem cut_is_out (ms : List M) {k n : Nat} (hk : k < n) : ∀ i (hi : i < (stab ltM (inU ms n)).length), (stab ltM (inU ms n))[i] = nthU ms k → (stab ltM (inU ms n)).eraseIdx i = stab ltM (outU ms k n) := by
  intro i hi he
  have hU := (inU_unlike ms n).perm (stab_perm (lt := ltM) (inU ms n)).symm
  have hO := stab_inOrder ordM (inU ms n)
  obtain ⟨o1, o2⟩ := erase_keeps i hO hU
  refine sorted_unique ?_ o1 (stab_inOrder ordM _) o2
  refine List.Perm.trans ?_ (stab_perm _).symm
  have hp : (nthU ms k :: (stab ltM (inU ms n)).eraseIdx i).Perm (inU ms n) := by
    have := erase_perm hi
    rw [he] at this
    exact this.trans (stab_perm _)
  have hq : (nthU ms k :: outU ms k n).Perm (inU ms n) := by
    clear hp hi he o1 o2 hO hU
    induction n with
    | zero => omega
    | succ n ih =>
      rw [outU_succ, inU_succ]
      by_cases e : n = k
      · subst e
        rw [if_pos rfl]
        have : outU ms n n = inU ms n := by
          unfold outU
          refine List.filter_eq_self.2 fun m hm => ?_
          obtain ⟨j, hj, rfl⟩ := inU_mem hm
          simp [nthU]
          omega
        rw [this]
        exact List.perm_append_comm (l₁ := [nthU ms n])
      · rw [if_neg e, ← List.cons_append]
        exact (ih (by omega)).append_right _
  exact List.Perm.cons_inv (hp.trans hq.symm)
theorem wf_u8n {n : Int} (h : (Lit.int .u8 n).wf = true) : 0 ≤ n ∧ n ≤ 255 := by
  simpa [Lit.wf, IntKind.min, IntKind.max, IntKind.signed, IntKind.bits] using h
/-- What the box holds behind i rounds. -/
def oU (ms : List M) (k i : Nat) : M := if k < i then nthU ms k else zeroM
theorem oU_other {ms : List M} {k i : Nat} (h : i ≠ k) : oU ms k (i + 1) = oU ms k i := by
  unfold oU
  by_cases hk : k < i
  · rw [if_pos hk, if_pos (by omega)]
  · rw [if_neg hk, if_neg (by omega)]
theorem oU_at (ms : List M) (k : Nat) : oU ms k (k + 1) = nthU ms k := if_pos (Nat.lt_succ_self k)
theorem outU_none (ms : List M) (k n : Nat) (f : Int) : hasS (stab ltM (outU ms k n)) f (k : Int) = false := by
  rw [hasS_perm (stab_perm _)]
  cases h : hasS (outU ms k n) f (k : Int) with
  | false => rfl
  | true =>
    obtain ⟨m, hm, _, hu⟩ := hasS_iff.1 h
    have := (List.mem_filter.1 hm).2
    simp [hu] at this
theorem zeroM_cells' : zeroM.cells = #[.int .i64 0, .int .i64 0, .int .i64 0, .int .i64 0, .int .i64 0, .int .i64 0, .bool false] := rfl
/-- The last four calls. -/
theorem Duo.ends {w wr : World} {Bp Bo n : Nat} {P : List M} {o : M} (h : Duo w wr Bp Bo n P P o) :
    Calls Try.prog 13 #[.pointer (some ⟨w.heap.size + 2, 0, none⟩)] wr fun e w1 => ∃ (a1 : Option Addr) (c1 : Nat), e = .returned (.slice a1 P.length c1) ∧ Hid (
      Calls Try.prog 13 #[.pointer (some ⟨Bp + 2, 0, none⟩)] w1 fun e w2 => ∃ (a2 : Option Addr) (c2 : Nat), e = .returned (.slice a2 P.length c2) ∧ Hid (
        Calls Try.prog 12 #[.slice a1 P.length c1, .slice a2 P.length c2] w2 fun e w3 => e = .returned (.bool true) ∧ Hid (
          Calls Try.prog 11 #[.pointer (some ⟨w.heap.size + 2, 0, none⟩)] w3 fun e w4 => e = .returned (.int .i64 P.length) ∧ w3 = w4 ∧ Below w.heap.size w w4))) := by
  have hB0 : Below w.heap.size w wr := h.b
  have hall := h
  obtain ⟨v, v2, h1, h2, _⟩ := h
  refine (hAll_any h1).mono ?_
  rintro e w1 ⟨a1, c1, he, hM1⟩
  obtain ⟨hM1, hb1, _⟩ := hM1.out
  have hb1 : Below wr.heap.size wr w1 := hb1
  refine ⟨a1, c1, he, ?_⟩
  refine (hAll_any (h2.below hb1)).mono ?_
  rintro e w2 ⟨a2, c2, he2, hM2⟩
  obtain ⟨hM2, hb2, _⟩ := hM2.out
  have hM1' := hM1.below hb2
  refine ⟨a2, c2, he2, (same_eq hM1' hM2).mono ?_⟩
  rintro e w3 ⟨he3, hr3⟩
  refine ⟨he3, (hLen_any ((h1.below hb1).below (hb2.trans (hr3.below.mono hb2.size)))).mono ?_⟩
  rintro e w4 ⟨he4, rfl⟩
  exact ⟨he4, rfl, (hB0.trans (hb1.mono hB0.size)).trans ((hb2.trans (hr3.below.mono hb2.size)).mono (Nat.le_trans hB0.size hb1.size))⟩

set_option maxHeartbeats 4000000 in
set_option maxRecDepth 100000 in
theorem lawLadderCuts_wide (Wd : Int) (hWf : (Lit.int .i64 Wd).wf = true) (hWd : 1 ≤ Wd ∧ Wd ≤ 16384) {w : World} {a : Option Addr} {len cap : Nat} {ms : List M} (h : Msgs w a len cap ms) (hr : len * 56 ≤ 140737488351232) (x : Nat) (hx : x < 256) :
    Calls Try.prog 5 #[.int .i64 Wd, .slice a len cap, .int .u8 x] w fun e w' => e = .returned (.bool true) ∧ Below w.heap.size w w' := by
  have mixed := mixed
  have hlen := Lib.hid h.1
  have hfit := Lib.hid h.2.2.2.1
  have hmx : len ≤ 9223372036854775807 := by have h1 := h.2.1; have h2 := h.2.2.1; unfold maxLen at h2; omega
  obtain ⟨nn, hnn⟩ : ∃ nn, nn = min len 300 := ⟨_, rfl⟩
  have hm : min (len : Int) 300 = (nn : Int) := by rw [hnn]; omega
  have hnn' : nn ≤ len ∧ nn ≤ 300 := by omega
  obtain ⟨hn1, hn2⟩ := hnn'
  have h' := Lib.hid h
  clear h hnn
  go_enter Try.func5, Try.ntmps5
  go_upto_region 2 with (go_at_call 8; refine (hNew_any w hWd hWf).mono ?_; rintro e w1 ⟨rfl, hQ1'⟩)
  go_upto_region 6 with (go_at_call 8; refine (hNew_any w1 hWd hWf).mono ?_; rintro e w2 ⟨rfl, hQ2'⟩)
  have hbd1 : w.heap.size + 2 < w1.heap.size := hQ1'.out.1.lt hQ1'.out.1.own
  have hbd2 : w1.heap.size + 2 < w2.heap.size := hQ2'.out.1.lt hQ2'.out.1.own
  by_cases h0 : nn = 0
  · subst h0
    have hc := hCut_none (hQ1'.out.1.below hQ2'.out.2) (f := 0) (u := 0) (by kernel_rfl) (by kernel_rfl) rfl
    rw [zeroM_val] at hc
    have hbb : Hid (∀ w3, Below w2.heap.size w2 w3 → Below w.heap.size w w3) := fun w3 hb => (hQ1'.out.2.trans (hQ2'.out.2.mono hQ1'.out.2.size)).trans (hb.mono (by omega))
    clear hbd1 hbd2
    go_wp2_with (go_at_call 18; refine hc.mono ?_; rintro e w3 ⟨rfl, hb3⟩; have hb3' := Lib.hid hb3; clear hb3)
    go_ret
    exact ⟨rfl, (hbb.out _ hb3'.out).alloc (hbb.out _ hb3'.out).size _⟩
  · have hz0 : ((nn : Int) == 0) = false := by simp; omega
    have hpos : 0 < nn := by omega
    clear h0
    obtain ⟨k, hk⟩ : ∃ k, k = x % nn := ⟨_, rfl⟩
    have hkn : k < nn := by rw [hk]; exact Nat.mod_lt _ hpos
    have hxi : (x : Int) < 256 := by omega
    have hmod : Int.tmod (x : Int) (nn : Int) = (k : Int) := by rw [hk]; exact (Int.ofNat_tmod x nn).symm
    have hwx : IntKind.i64.wrap (x : Int) = (x : Int) := IntWalk.i64_in _ (by omega)
    have hwk : IntKind.i64.wrap (k : Int) = (k : Int) := IntWalk.i64_in _ (by omega)
    clear hk
    go_upto_region 11 with (fail)
    have hD0 : Duo w (w2.alloc (.cells zeroM.cells 34)) w1.heap.size w2.heap.size (2 * 0) (stab ltM (inU ms 0)) (stab ltM (outU ms k 0)) (oU ms k 0) := by
      have hb := (Below.refl _ w2).alloc (Nat.le_refl _) (.cells zeroM.cells 34)
      refine ⟨newS w, newS w1, (hQ1'.out.1.below hQ2'.out.2).below hb, hQ2'.out.1.below hb, (fun g hg e => by have h1 := hg.2; have h2 := e.1; omega), (fun e => by have h1 := e.2; omega), (fun e => by have h1 := e.2; omega), ?_, (hQ1'.out.2.trans (hQ2'.out.2.mono hQ1'.out.2.size)).trans (hb.mono (by omega)), (fun g e => e.1), (fun g e => by have h1 := e.1; omega), by omega⟩
      show BoxM _ _ (oU ms k 0)
      rw [show oU ms k 0 = zeroM from if_neg (Nat.not_lt_zero k)]
      exact BoxM.mk w2 zeroM
    have hD0' := Lib.hid hD0
    simp only [zeroM_cells'] at hD0'
    clear hD0
    have hbd1' := Lib.hid hbd1
    have hbd2' := Lib.hid hbd2
    clear hbd1 hbd2 hQ1' hQ2' hmod hwx hwk
    generalize w2.alloc (.cells #[.int .i64 0, .int .i64 0, .int .i64 0, .int .i64 0, .int .i64 0, .int .i64 0, .bool false] 34) = W3 at hD0' ⊢
    generalize w2.heap.size = Bo at hD0' hbd2' ⊢
    generalize w1.heap.size = Bp at hD0' hbd1' hbd2' ⊢
    go_wp2_with fail
    go_loopw [16] (fun s12 wr => ∃ i : Nat, i ≤ nn ∧ s12 = .int .i64 i ∧ Hid (Duo w wr Bp Bo (2 * i) (stab ltM (inU ms i)) (stab ltM (outU ms k i)) (oU ms k i))) (fun s12 _ => nn - (intOf s12).toNat)
    case atStart => exact ⟨0, Nat.zero_le _, rfl, hD0'⟩
    case round =>
      obtain ⟨i, hi, rfl, hD⟩ := hrel
      clear hD0'
      by_cases hin : i < nn
      · have hz : (i : Int) < (nn : Int) := by omega
        obtain ⟨b, off, rfl, hma⟩ : ∃ b off, a = some ⟨b, off, none⟩ ∧ ∀ i, i < len → MsgAt w b (off + i * 7) (ms.getD i default) := by
          rcases h'.out.2.2.2.2 with h0 | hx
          · omega
          · exact hx
        have hmk := (hma i (by omega)).below hD.out.b
        have hkl : i < len := by omega
        have hnk : Hid (nthU ms i = { ms.getD i default with u := (i : Int) }) := rfl
        generalize ms.getD i default = m at hmk hnk
        obtain ⟨⟨t, f, s⟩, tt, vv, u, an⟩ := m
        obtain ⟨-, x0, x1, x2, x3, x4, x5, x6⟩ := hmk
        simp only at x0 x1 x2 x3 x4 x5 x6 hnk
        clear hma
        go_upto_region 16 with (fail)
        have hbx : BoxM (wr.alloc (.cells #[.int .i64 t, .int .i64 f, .int .i64 s, .int .i64 tt, .int .i64 vv, .int .i64 (i : Int), .bool an] 34)) wr.heap.size ⟨⟨t, f, s⟩, tt, vv, (i : Int), an⟩ := BoxM.mk wr ⟨⟨t, f, s⟩, tt, vv, (i : Int), an⟩
        have hb2 : Below wr.heap.size wr (wr.alloc (.cells #[.int .i64 t, .int .i64 f, .int .i64 s, .int .i64 tt, .int .i64 vv, .int .i64 (i : Int), .bool an] 34)) := (Below.refl _ wr).alloc (Nat.le_refl _) _
        have hnf := nthU_fits hfit.out i (by rw [hlen.out]; omega) (by omega)
        rw [← hnk.out] at hbx
        have hps := hD.out.pushQ hb2 hbx (Nat.le_refl _) hnf (inU_new ms i _) (by rw [stab_length, inU_length]; omega)
        have hA : mg ltM (stab ltM (inU ms i)) [nthU ms i] = stab ltM (inU ms (i + 1)) := by rw [inU_succ, stab_snoc]
        rw [hA] at hps
        obtain ⟨-, y0, y1, y2, y3, y4, y5, y6⟩ := hbx.at
        simp only [Nat.zero_add] at y0 y1 y2 y3 y4 y5 y6
        have hpp : Hid (∀ w5, Duo w w5 Bp Bo (2 * i + 1) (stab ltM (inU ms (i + 1))) (stab ltM (outU ms k i)) (oU ms k i) → i ≠ k → Calls Try.prog 15 #[.pointer (some ⟨Bp + 2, 0, none⟩), (nthU ms i).val] w5 fun e w' => e = .returned (.int .i64 0) ∧ Hid (Duo w w' Bp Bo (2 * (i + 1)) (stab ltM (inU ms (i + 1))) (stab ltM (outU ms k (i + 1))) (oU ms k (i + 1)))) := by
          intro w5 hd hik
          have := hd.pushP hnf (outU_new ms k i _) (by rw [stab_length]; have := outU_length ms k i; omega)
          refine this.mono ?_
          rintro e w' ⟨he, hd2⟩
          refine ⟨he, ?_⟩
          have h2 := hd2.out
          rw [oU_other hik, outU_succ, if_neg hik, stab_snoc]
          exact h2
        have hpo : Hid (∀ w5 w6, Duo w w5 Bp Bo (2 * i + 1) (stab ltM (inU ms (i + 1))) (stab ltM (outU ms k i)) (oU ms k i) → i = k → KeptOff (fun k => k = Bo) w5 w6 → BoxM w6 Bo (nthU ms i) → Duo w w6 Bp Bo (2 * (i + 1)) (stab ltM (inU ms (i + 1))) (stab ltM (outU ms k (i + 1))) (oU ms k (i + 1))) := by
          rintro w5 w6 hd rfl hk6 hb6
          rw [oU_at, outU_succ, if_pos rfl]
          exact (hd.box hk6 hb6).mono (by omega)
        have hbo : Hid (∀ w5, Duo w w5 Bp Bo (2 * i + 1) (stab ltM (inU ms (i + 1))) (stab ltM (outU ms k i)) (oU ms k i) → BoxM w5 Bo (oU ms k i)) := by
          exact fun w5 h => h.bx
        generalize wr.heap.size = Bx at hps y0 y1 y2 y3 y4 y5 y6 ⊢
        generalize wr.alloc (.cells #[.int .i64 t, .int .i64 f, .int .i64 s, .int .i64 tt, .int .i64 vv, .int .i64 (i : Int), .bool an] 34) = W4 at hps y0 y1 y2 y3 y4 y5 y6 ⊢
        generalize nthU ms i = m at hps y0 y1 y2 y3 y4 y5 y6 hpp hpo
        simp only [M.val] at hps hpp
        have hps' := Lib.hid hps
        clear hps hnk hnf hA hb2 hbx x0 x1 x2 x3 x4 x5 x6 hD
        go_upto_region 17 with (go_at_call 15; refine hps'.out.mono ?_; rintro e w5 ⟨rfl, h5⟩; have h5' := Lib.hid h5.out; clear h5)
        obtain ⟨-, z0, z1, z2, z3, z4, z5, z6⟩ := h5'.out.1.at
        simp only [Nat.zero_add] at z0 z1 z2 z3 z4 z5 z6
        clear y0 y1 y2 y3 y4 y5 y6 hps'
        by_cases hik : i = k
        · subst hik
          have hbo5 := Lib.hid (hbo.out w5 h5'.out.2)
          have hfin := Lib.hid (hpo.out w5 (w5.setRow Bo m.cells) h5'.out.2 rfl (KeptOff.row _ _ _) (hbo5.out.row m))
          clear hpp hpo hbo
          go_wp2_with (refine wpList_store_row rfl 34 (.tmp 15) (.tmp 81) rfl Bo m.cells rfl rfl 34 (oU ms i i).cells hbo5.out infoS rfl (M.cells_one m) ?_)
          go_roundw
          case rel => exact ⟨i + 1, by omega, by go_num, hfin⟩
          case measure => simp [intOf]; omega
        · have hzk : ¬ (i : Int) = (k : Int) := by omega
          have hpu := Lib.hid (hpp.out w5 h5'.out.2 hik)
          clear hik hpp hpo hbo
          go_wp2_with (go_at_call 15; refine hpu.out.mono ?_; rintro e w6 ⟨rfl, h6⟩; have h6' := Lib.hid h6.out; clear h6)
          go_roundw
          case rel => exact ⟨i + 1, by omega, by go_num, h6'⟩
          case measure => simp [intOf]; omega
      · obtain rfl : i = nn := by omega
        have hz : ¬ (i : Int) < (i : Int) := by omega
        have hPl : (stab ltM (outU ms k i)).length = i - 1 := by
          obtain ⟨j, hj, e⟩ := List.getElem_of_mem (inU_has ms hkn)
          rw [← cut_is_out ms hkn j hj e, List.length_eraseIdx_of_lt hj, stab_length, inU_length]
        have hnf := nthU_fits hfit.out k (by rw [hlen.out]; omega) (by omega)
        have hno := fun f => outU_none ms k i f
        have hD2 := hD.out
        rw [show oU ms k i = nthU ms k from if_pos hkn] at hD2
        have hcut := hD2.cutQ (inU_has ms hkn) hnf (cut_is_out ms hkn)
        have hbo : BoxM wr Bo (nthU ms k) := hD2.bx
        have hmu : (nthU ms k).u = (k : Int) := rfl
        rw [hmu] at hcut
        have hkw : (Lit.int .i64 (k : Int)).wf = true := WalkArith.wf_i64 (by omega)
        generalize stab ltM (outU ms k i) = P at hPl hno hcut
        generalize nthU ms k = m at hnf hcut hbo hmu
        have hnx : Hid (∀ W6, Duo w W6 Bp Bo (2 * i) P P m → BoxM W6 Bo m ∧ Calls Try.prog 18 #[.pointer (some ⟨w.heap.size + 2, 0, none⟩), .int .i64 m.k.f, .int .i64 (k : Int)] W6 fun e w7 => e = .returned (.tuple #[zeroM.val, .int .i64 6]) ∧ Below W6.heap.size W6 w7) := by
          intro W6 hd
          have h5 := hd.bx
          obtain ⟨S, S2, q1, _⟩ := hd
          exact ⟨h5, hCut_none q1 hnf.1.2.1 hkw (hno _)⟩
        have heq := fun w => eqlM m m w
        simp only [decide_true, M.val] at heq
        have hlw : IntKind.i64.wrap ((i : Int) - 1) = (i : Int) - 1 := IntWalk.i64_in _ (by omega)
        have hle : (P.length : Int) = (i : Int) - 1 := by omega
        obtain ⟨-, -, y1, -, -, -, -, -⟩ := hbo.at
        simp only [Nat.zero_add] at y1
        rw [zeroM_val] at hnx
        simp only [M.val] at hcut
        have hcut' := Lib.hid hcut
        have hle' := Lib.hid hle
        clear hcut hD hD2 hno hmu hnf hbo hPl hkw hle
        go_upto_region 21 with (go_at_call 18; refine hcut'.out.mono ?_; rintro e w5 ⟨rfl, h5⟩; have h5' := Lib.hid h5.out; clear h5)
        have hb6 : Below w5.heap.size w5 (w5.alloc (.cells m.cells 34)) := (Below.refl _ w5).alloc (Nat.le_refl _) _
        have hD6 := Lib.hid (h5'.out.below hb6)
        have hx6 := Lib.hid (BoxM.mk w5 m)
        simp only [M.cells] at hD6 hx6
        clear hb6 hcut' y1
        generalize w5.heap.size = B14 at hx6 ⊢
        generalize w5.alloc (.cells #[.int .i64 m.k.t, .int .i64 m.k.f, .int .i64 m.k.s, .int .i64 m.to, .int .i64 m.v, .int .i64 m.u, .bool m.anti] 34) = W6 at hD6 hx6 ⊢
        obtain ⟨hbo6, hc6⟩ := hnx.out W6 hD6.out
        obtain ⟨-, -, y1, -, -, -, -, -⟩ := hbo6.at
        simp only [Nat.zero_add] at y1
        clear hbo6
        go_upto_region 22 with (go_at_call 18; refine hc6.mono ?_; rintro e w7 ⟨rfl, h7⟩; have h7' := Lib.hid h7; clear h7)
        have hb8 := h7'.out.alloc h7'.out.size (.cells zeroM.cells 34)
        have hD8 := Lib.hid (hD6.out.below hb8)
        have hx8 := Lib.hid (hx6.out.kept (S := fun _ => False) (.of_below hb8) (fun e => e))
        simp only [zeroM_cells'] at hD8 hx8
        clear hb8 hc6 y1 hD6 hx6
        generalize w7.alloc (.cells #[.int .i64 0, .int .i64 0, .int .i64 0, .int .i64 0, .int .i64 0, .int .i64 0, .bool false] 34) = W8 at hD8 hx8 ⊢
        obtain ⟨hbo8, -⟩ := hnx.out W8 hD8.out
        obtain ⟨-, y0, y1, y2, y3, y4, y5, y6⟩ := hbo8.at
        obtain ⟨-, z0, z1, z2, z3, z4, z5, z6⟩ := hx8.out.at
        simp only [Nat.zero_add] at y0 y1 y2 y3 y4 y5 y6 z0 z1 z2 z3 z4 z5 z6
        have hE := hD8.out.ends
        have hle2 := hle'.out
        generalize P.length = L at hE hle2
        rw [hle2] at hE
        clear hbo8 hnx hle2 hle' hD8 hx8
        go_wp2_with (first
          | (go_at_call 13; (with_reducible refine hE.mono ?_); rintro e w9 ⟨a1, c1, rfl, hE2⟩; have hE2' := hE2.out; clear hE2)
          | (go_at_call 13; (with_reducible refine hE2'.mono ?_); rintro e w10 ⟨a2, c2, rfl, hE3⟩; have hE3' := hE3.out; clear hE3)
          | (go_at_call 12; (with_reducible refine hE3'.mono ?_); rintro e w11 ⟨rfl, hE4⟩; have hE4' := hE4.out; clear hE4)
          | (go_at_call 11; (with_reducible refine hE4'.mono ?_); rintro e w12 ⟨rfl, rfl, hb12⟩; have hb12' := Lib.hid hb12; clear hb12))
        go_ret
        exact ⟨rfl, hb12'.out⟩
set_option maxHeartbeats 1000000 in
theorem lawLadderCuts (Wd : Int) (hWf : (Lit.int .i64 Wd).wf = true) {w : World} {a : Option Addr} {len cap : Nat} {ms : List M} (h : Msgs w a len cap ms) (hr : len * 56 ≤ 140737488351232) (x : Nat) (hx : x < 256) :
    Calls Try.prog 5 #[.int .i64 Wd, .slice a len cap, .int .u8 x] w fun e w' => e = .returned (.bool true) ∧ Below w.heap.size w w' := by
  by_cases hWd : 1 ≤ Wd ∧ Wd ≤ 16384
  · exact lawLadderCuts_wide Wd hWf hWd h hr x hx
  · rcases (by omega : Wd < 1 ∨ 16384 < Wd) with hW1 | hW1
    · have hWx := hW1
      have hnew := hNew_no w (W := Wd) (by omega)
      have haw := awake8_any w
      clear h hWd hWf hr hx
      go_enter Try.func5, Try.ntmps5
      go_wp2_with (first
        | (go_at_call 8; refine hnew.mono ?_; rintro e w1 ⟨rfl, rfl⟩))
      go_ret
      exact ⟨rfl, Below.refl _ _⟩
    · have hWx : ¬ Wd < 1 := by omega
      have hnew := hNew_no w (W := Wd) (by omega)
      have haw := awake8_any w
      clear h hWd hWf hr hx
      go_enter Try.func5, Try.ntmps5
      go_wp2_with (first
        | (go_at_call 8; refine hnew.mono ?_; rintro e w1 ⟨rfl, rfl⟩)
        | (go_at_call 14; refine haw.mono ?_; rintro e w2 ⟨rfl, hb2⟩; have hb2' := Lib.hid hb2; clear hb2))
      go_ret
      exact ⟨rfl, hb2'.out⟩
end Go.Proofs.Ytcfpfbemmklbaaa
