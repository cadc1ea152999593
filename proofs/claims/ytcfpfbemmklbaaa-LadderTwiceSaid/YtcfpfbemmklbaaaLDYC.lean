/-
  Rungs: each by its number; all messages, sorted.
-/
import Derived.Test.YtcfpfbemmklbaaaLDQ
namespace Go.Proofs.Ytcfpfbemmklbaaa
open Go.ChangeShapes Go.WideShapes Go.ChangeAt Go.Shelf Go.RowKit Go.Lib Go.Sort Go.Deep
set_option linter.unusedVariables false

/-- Where a new slice lies. -/
def FreshA (B len : Nat) (a : Option Addr) : Prop := len = 0 ∨ ∃ g, a = some ⟨g, 0, none⟩ ∧ B ≤ g
theorem sort_qn {w w1 : World} {a' : Option Addr} {len cap' : Nat} {ms : List M} (hlen : ms.length = len) (hfit : ∀ m ∈ ms, m.fits) (hr : len * 56 ≤ 140737488351232) (h : CloneQ w ms len a' cap' w1) :
    Calls Try.prog 48 #[.slice a' len cap', .func (.func 31) #[] #[]] w1 fun e w' => e = .returned (.tuple #[]) ∧ Aside ((Msgs w' a' len cap' (stab ltM ms) ∧ Below w.heap.size w w') ∧ FreshA w.heap.size len a') := by
  have hF : FreshA w.heap.size len a' := by
    obtain ⟨_, _, _, h4⟩ := h
    exact h4.imp id (fun ⟨g, e, hg, _⟩ => ⟨g, e, hg⟩)
  exact (sort_q hlen hfit hr h).mono fun e w' h' => ⟨h'.1, h'.2.out, hF⟩
theorem sortedBy_new {w : World} {a : Option Addr} {len cap : Nat} {ms : List M} (h : Msgs w a len cap ms) (hr : len * 56 ≤ 140737488351232) :
    Calls Try.prog 30 #[.slice a len cap, .func (.func 31) #[] #[]] w fun e w' => ∃ a' cap', e = .returned (.slice a' len cap') ∧ Aside ((Msgs w' a' len cap' (stab ltM ms) ∧ Below w.heap.size w w') ∧ FreshA w.heap.size len a') := by
  have hc := clone_any h hr
  have hs := fun a' cap' w1 (hq : Aside (CloneQ w ms len a' cap' w1)) => sort_qn h.1 h.2.2.2.1 hr hq.out
  clear h hr
  go_enter Try.func30, Try.ntmps30
  go_wp2_with (first | (go_at_call 47; refine hc.mono ?_; rintro e w1 ⟨a', cap', rfl, hq⟩) | (go_at_call 48; refine (hs _ _ _ (by assumption)).mono ?_; rintro e w2 ⟨rfl, hT⟩))
  go_ret
  exact ⟨a', cap', rfl, hT⟩
theorem eSorted_new {w : World} {a : Option Addr} {len cap : Nat} {ms : List M} (h : Msgs w a len cap ms) (hr : len * 56 ≤ 140737488351232) :
    Calls Try.prog 16 #[.slice a len cap] w fun e w' => ∃ a' cap', e = .returned (.slice a' len cap') ∧ Aside ((Msgs w' a' len cap' (stab ltM ms) ∧ Below w.heap.size w w') ∧ FreshA w.heap.size len a') := by
  have hc := sortedBy_new h hr
  clear h hr
  go_enter Try.func16, Try.ntmps16
  go_wp2_with (go_at_call 30; refine hc.mono ?_; rintro e w1 ⟨a', cap', rfl, hq⟩)
  go_ret
  exact ⟨a', cap', rfl, hq⟩


/-- The first k lists. -/
def upTo (L : Nat → List M) (k : Nat) : List M := (List.range k).flatMap L
theorem upTo_succ (L : Nat → List M) (k : Nat) : upTo L (k + 1) = upTo L k ++ L k := by simp [upTo, List.range_succ]
theorem upTo_mono (L : Nat → List M) (j : Nat) : ∀ k, j ≤ k → (upTo L j).length ≤ (upTo L k).length
  | 0, h => by rw [show j = 0 by omega]; exact Nat.le_refl _
  | k + 1, h => by
    by_cases e : j = k + 1
    · rw [e]; exact Nat.le_refl _
    · have := upTo_mono L j k (by omega)
      rw [upTo_succ, List.length_append]
      omega
theorem upTo_congr {L L' : Nat → List M} : ∀ k, (∀ i, i < k → L i = L' i) → upTo L k = upTo L' k
  | 0, _ => rfl
  | k + 1, h => by rw [upTo_succ, upTo_succ, upTo_congr k (fun i hi => h i (by omega)), h k (by omega)]
theorem upTo_rungs : ∀ us : List Up, upTo (fun i => (us.getD i default).L) us.length = us.flatMap Up.L := by
  intro us
  have e : us = (List.range us.length).map (fun i => us.getD i default) := by
    apply List.ext_getElem
    · simp
    · intro i h1 h2
      simp [List.getD_eq_getElem?_getD, h1]
  conv => rhs; rw [e]
  rw [List.flatMap_map]
  rfl
/-- The rungs by their numbers. -/
def Rungs (w : World) (rb N : Nat) (kb ko : Nat → Nat) (V : Nat → Value) (L : Nat → List M) : Prop :=
  ∀ k, k ≤ N → ∀ W, Below w.heap.size w W → Calls Try.prog 40 #[.pointer (some ⟨rb, 0, none⟩), .int .i64 k] W (fun e w' => e = .returned (.pointer (some ⟨kb k, ko k, none⟩)) ∧ W = w') ∧ W.cell? ⟨kb k, ko k, none⟩ = some (V k) ∧ AtM W (V k) (L k)
theorem rungs_by {w : World} {rb : Nat} {most : Int} {bv av : Value} {B : List M} {us : List Up} (h : RungsOf w rb most bv B av us) :
    ∃ kb ko V L, Rungs w rb us.length kb ko V L ∧ (∀ k, k < us.length → L k = (us.getD k default).L) ∧ L us.length = B := by
  by_cases h0 : us.length = 0
  · refine ⟨fun _ => rb, fun _ => 0, fun _ => bv, fun _ => B, fun k hk W hb => ?_, fun k hk => by omega, rfl⟩
    have h1 := h.below hb
    obtain ⟨aa, acap, hav, -⟩ := RowAt.shape h1.abv
    have c2 := h1.c2
    rw [hav] at c2
    obtain rfl : k = us.length := by omega
    exact ⟨at_bot c2, h1.c0, h1.bot⟩
  · obtain ⟨ag, aoff, acap, hav, -⟩ := AtU.form h.abv (by omega)
    refine ⟨fun k => if k < us.length then ag else rb, fun k => if k < us.length then aoff + k * 8 else 0, fun k => if k < us.length then (us.getD k default).v else bv, fun k => if k < us.length then (us.getD k default).L else B, fun k hk W hb => ?_, fun k hk => if_pos hk, if_neg (by omega)⟩
    have h1 := h.below hb
    have c2 := h1.c2
    rw [hav] at c2
    by_cases hlt : k < us.length
    · simp only [if_pos hlt]
      have hR : RowU W ag aoff acap us := by
        obtain ⟨g', off', cap', e, hRU⟩ := AtU.form h1.abv (by omega)
        rw [hav] at e
        obtain ⟨⟨rfl, rfl⟩, rfl⟩ : (ag = g' ∧ aoff = off') ∧ acap = cap' := by simpa using e
        exact hRU
      refine ⟨at_up c2 k hlt, hR.slot k hlt, h1.each _ ?_⟩
      rw [getD_at us k hlt]
      exact List.getElem_mem hlt
    · simp only [if_neg hlt]
      obtain rfl : k = us.length := by omega
      exact ⟨at_bot c2, h1.c0, h1.bot⟩
theorem rungs_all {B : List M} {us : List Up} {L : Nat → List M} (h1 : ∀ k, k < us.length → L k = (us.getD k default).L) (h2 : L us.length = B) : upTo L (us.length + 1) = us.flatMap Up.L ++ B := by
  rw [upTo_succ, h2, upTo_congr us.length h1, upTo_rungs]
theorem msgs_of_at {w : World} {v : Value} {l : List M} (h : AtM w v l) (hf : ∀ m ∈ l, m.fits) : ∃ a cap, v = .slice a l.length cap ∧ Msgs w a l.length cap l := by
  rcases h with ⟨rfl, h0, _⟩ | ⟨g, off, cap, rfl, hR⟩
  · exact ⟨none, 0, by rw [h0], rfl, by omega, Nat.zero_le _, hf, .inl h0⟩
  · have hb := RowIn.bounds hR
    exact ⟨some ⟨g, off, none⟩, cap, rfl, rfl, hb.1, hb.2.1, hf, .inr ⟨g, off, rfl, fun i hi => RowM.at hR i hi⟩⟩

/-- Behind k rungs. -/
def SumUp (w : World) (L : Nat → List M) (k : Nat) (v : Value) (wr : World) : Prop := AtM wr v (upTo L k) ∧ (∀ j q, vext v 7 j q → w.heap.size ≤ j) ∧ Below w.heap.size w wr
theorem SumUp.step {w wr : World} {L : Nat → List M} {k : Nat} {v : Value} (h : SumUp w L k v wr) : ∀ v' w4, Hid (RowAt w4 34 7 v' ((upTo L k).length + (L k).length) (flat (upTo L k) ++ flat (L k))) → Hid (KeptC (vext v 7) wr w4) → Hid (∀ k q, vext v' 7 k q → vext v 7 k q ∨ wr.heap.size ≤ k) → Hid (SumUp w L (k + 1) v' w4) := by
  intro v' w4 r1 r2 r3
  obtain ⟨h1, h2, h3⟩ := h
  refine ⟨?_, fun j q hj => (r3.out j q hj).elim (h2 j q) (fun e => Nat.le_trans h3.size e), h3.trans (r2.out.below (fun k o _ e => h2 k o e) h3.size)⟩
  unfold AtM
  rw [upTo_succ, List.length_append, flat_append]
  exact r1.out
theorem FreshA.mono {B B' len : Nat} {a : Option Addr} (h : FreshA B' len a) (hb : B ≤ B') : FreshA B len a := h.imp id (fun ⟨g, e, hg⟩ => ⟨g, e, Nat.le_trans hb hg⟩)

set_option maxHeartbeats 8000000 in
set_option maxRecDepth 100000 in
theorem sorted_any {w : World} {hb rb mb : Nat} {most : Int} {bv av : Value} {B : List M} {us : List Up} {T : List M} (h : LadOf w hb rb mb most bv av B us T) :
    Calls Try.prog 26 #[.pointer (some ⟨rb, 0, none⟩)] w fun e w' => ∃ (a' : Option Addr) (c' : Nat), e = .returned (.slice a' T.length c') ∧ Hid (Msgs w' a' T.length c' T ∧ Below w.heap.size w w' ∧ FreshA w.heap.size T.length a') := by
  have mixed := mixed
  obtain ⟨i0, hi, hz0, hz1, hz2⟩ := info_parts infoM
  obtain ⟨kb, ko, V, L, hR, hL1, hL2⟩ := rungs_by h.rungs
  have hall := rungs_all hL1 hL2
  have hperm : (upTo L (us.length + 1)).Perm T := by
    rw [hall]
    refine List.Perm.trans ?_ h.same
    unfold held
    exact List.perm_append_comm
  have hlen := hperm.length_eq
  have hsm := h.small
  have hrl := held_rungs (B := B) h.stairs.up.full
  have hhl := h.hlen
  obtain ⟨aa, acap, hav, -⟩ := RowAt.shape h.rungs.abv
  have c2 := h.rungs.c2
  rw [hav] at c2
  have hw1 : IntKind.i64.wrap ((us.length : Int) + 1) = (us.length : Int) + 1 := half_wrap (n := us.length) (by omega)
  have hS0 : Hid (SumUp w L 0 (.slice none 0 0) w) := ⟨RowAt.nil _ _ _, fun j q e => (vext_nil e).elim, Below.refl _ _⟩
  have hbd : ∀ k, k ≤ us.length → (upTo L k).length + (L k).length ≤ 16384 := fun k hk => by
    have := upTo_mono L (k + 1) (us.length + 1) (by omega)
    rw [upTo_succ, List.length_append] at this
    omega
  have hbd' := Lib.hid hbd
  have hR' := Lib.hid hR
  have hend : Hid (∀ v wr, Hid (SumUp w L (us.length + 1) v wr) → ∃ a n c, v = .slice a n c ∧ Calls Try.prog 16 #[.slice a n c] wr fun e w' => ∃ (a' : Option Addr) (c' : Nat), e = .returned (.slice a' T.length c') ∧ Hid (Msgs w' a' T.length c' T ∧ Below w.heap.size w w' ∧ FreshA w.heap.size T.length a')) := by
    intro v wr hs
    obtain ⟨h1, h2, h3⟩ := hs.out
    obtain ⟨a, cap, rfl, hM⟩ := msgs_of_at h1 (fun m hm => h.fits m (hperm.mem_iff.1 hm))
    refine ⟨a, _, cap, rfl, (eSorted_new hM (by omega)).mono ?_⟩
    rintro e w' ⟨a', c', he, hq⟩
    obtain ⟨⟨q1, q2⟩, q3⟩ := hq.out
    rw [stab_unique hperm h.o (h.u.perm hperm.symm), hlen] at q1
    rw [hlen] at he q3
    exact ⟨a', c', he, q1, h3.trans (q2.mono h3.size), q3.mono h3.size⟩
  have hN : us.length ≤ 16384 := by omega
  clear h hall hL1 hL2 hrl hhl hlen hsm hav hR hbd hperm
  generalize us.length = N at *
  go_enter Try.func26, Try.ntmps26
  go_wp2_with (fail)
  go_loopw [11, 3] (fun s11 s3 wr => ∃ k : Nat, k ≤ N + 1 ∧ s11 = .int .i64 k ∧ Hid (SumUp w L k s3 wr)) (fun s11 _ _ => N + 1 - (intOf s11).toNat)
  case atStart => exact ⟨0, by omega, rfl, hS0⟩
  case round =>
    obtain ⟨k, hk, rfl, hs⟩ := hrel
    clear hS0
    by_cases hkn : k < N + 1
    · have hz : (k : Int) < (N : Int) + 1 := by omega
      obtain ⟨hat, hc, hA⟩ := hR'.out k (by omega) wr hs.out.2.2
      have hA' := Lib.hid hA
      have hst := Lib.hid (hs.out.step)
      have hA0 := Lib.hid hs.out.1
      have hb5 := hbd'.out k (by omega)
      have hone := flat_one (L k)
      have h63 : (upTo L k).length + (L k).length ≤ maxLen := by unfold maxLen; omega
      have hby : ((upTo L k).length + (L k).length) * 56 ≤ 140737488355328 := by omega
      have hwk : IntKind.i64.wrap ((k : Int) + 1) = (k : Int) + 1 := half_wrap (n := k) (by omega)
      clear hA hend
      go_upto_region 6 with (first
        | (go_at_call 40; refine hat.mono ?_; rintro e w1 ⟨rfl, rfl⟩)
        | (refine wpList_append_rowC rfl (.tmp 14) (.tmp 20) 38 rfl hA0.out i0 _ 56 Try.underlying38 hi hz0 hz1 hz2 rfl (by omega) rfl rfl hA'.out hone h63 hby ?_; intro v1 w1 r1 r2 r3; have hs1 := hst.out v1 w1 r1 r2 r3; clear r1 r2 r3))
      go_wp2
      go_roundw
      case rel => exact ⟨k + 1, by omega, by go_num, hs1⟩
      case measure => simp [intOf]; omega
    · obtain rfl : k = N + 1 := by omega
      have hz : ¬ ((N + 1 : Nat) : Int) < (N : Int) + 1 := by omega
      obtain ⟨a, n, c, rfl, hcall⟩ := hend.out _ wr hs
      have hcall' := Lib.hid hcall
      clear hcall hend
      go_wp2_with (go_at_call 16; refine hcall'.out.mono ?_; rintro e w2 ⟨a', c', rfl, hq⟩)
      go_ret
      exact ⟨a', c', rfl, hq⟩
end Go.Proofs.Ytcfpfbemmklbaaa
