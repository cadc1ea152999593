/-
  Rungs: each by its number; all messages, sorted.
  Days: all their messages, joined.
-/
import Derived.Test.YtjlbkdghlijoeaaGreatLDQG
import Derived.Test.YtjlbkdghlijoeaaGreatHL
import Derived.OwnWalk
namespace Go.Proofs.YtjlbkdghlijoeaaGreat
open Go.ChangeShapes Go.WideShapes Go.ChangeAt Go.Shelf Go.RowKit Go.Lib Go.Sort Go.Deep
set_option linter.unusedVariables false

/-- Where a new slice lies. -/
def FreshA (B len : Nat) (a : Option Addr) : Prop := len = 0 ∨ ∃ g, a = some ⟨g, 0, none⟩ ∧ B ≤ g
theorem sort_qn {w w1 : World} {a' : Option Addr} {len cap' : Nat} {ms : List M} (hlen : ms.length = len) (hfit : ∀ m ∈ ms, m.fits) (hr : len * 56 ≤ 140737488351232) (h : CloneQ w ms len a' cap' w1) :
    Calls Tryz.prog 144 #[.slice a' len cap', .func (.func 139) #[] #[]] w1 fun e w' => e = .returned (.tuple #[]) ∧ Aside ((Msgs w' a' len cap' (stab ltM ms) ∧ Below w.heap.size w w') ∧ FreshA w.heap.size len a') := by
  have hF : FreshA w.heap.size len a' := by
    obtain ⟨_, _, _, h4⟩ := h
    exact h4.imp id (fun ⟨g, e, hg, _⟩ => ⟨g, e, hg⟩)
  exact (sort_q hlen hfit hr h).mono fun e w' h' => ⟨h'.1, h'.2.out, hF⟩
theorem sortedBy_new {w : World} {a : Option Addr} {len cap : Nat} {ms : List M} (h : Msgs w a len cap ms) (hr : len * 56 ≤ 140737488351232) :
    Calls Tryz.prog 138 #[.slice a len cap, .func (.func 139) #[] #[]] w fun e w' => ∃ a' cap', e = .returned (.slice a' len cap') ∧ Aside ((Msgs w' a' len cap' (stab ltM ms) ∧ Below w.heap.size w w') ∧ FreshA w.heap.size len a') := by
  have hc := clone_any h hr
  have hs := fun a' cap' w1 (hq : Aside (CloneQ w ms len a' cap' w1)) => sort_qn h.1 h.2.2.2.1 hr hq.out
  clear h hr
  go_enter Tryz.func138, Tryz.ntmps138
  go_wp2_with (first | (go_at_call 79; refine hc.mono ?_; rintro e w1 ⟨a', cap', rfl, hq⟩) | (go_at_call 144; refine (hs _ _ _ (by assumption)).mono ?_; rintro e w2 ⟨rfl, hT⟩))
  go_ret
  exact ⟨a', cap', rfl, hT⟩
theorem eSorted_new {w : World} {a : Option Addr} {len cap : Nat} {ms : List M} (h : Msgs w a len cap ms) (hr : len * 56 ≤ 140737488351232) :
    Calls Tryz.prog 131 #[.slice a len cap] w fun e w' => ∃ a' cap', e = .returned (.slice a' len cap') ∧ Aside ((Msgs w' a' len cap' (stab ltM ms) ∧ Below w.heap.size w w') ∧ FreshA w.heap.size len a') := by
  have hc := sortedBy_new h hr
  clear h hr
  go_enter Tryz.func131, Tryz.ntmps131
  go_wp2_with (go_at_call 138; refine hc.mono ?_; rintro e w1 ⟨a', cap', rfl, hq⟩)
  go_ret
  exact ⟨a', cap', rfl, hq⟩


/-- The first k lists. -/
def upTo (L : Nat → List M) (k : Nat) : List M := (List.range k).flatMap L
theorem upTo_succ (L : Nat → List M) (k : Nat) : upTo L (k + 1) = upTo L k ++ L k := by simp [upTo, List.range_succ]
theorem upTo_mono (L : Nat → List M) (j : Nat) : ∀ k, j ≤ k → (upTo L j).length ≤ (upTo L k).length
  | 0, h => by rw [show j = 0 by omega]; exact Nat.le_refl _
  | k + 1, h => by
    by_cases e : j = k + 1
    · rw [e]; exact Nat.le_refl _
    · have := upTo_mono L j k (by omega)
      rw [upTo_succ, List.length_append]
      omega
theorem upTo_congr {L L' : Nat → List M} : ∀ k, (∀ i, i < k → L i = L' i) → upTo L k = upTo L' k
  | 0, _ => rfl
  | k + 1, h => by rw [upTo_succ, upTo_succ, upTo_congr k (fun i hi => h i (by omega)), h k (by omega)]
theorem upTo_rungs : ∀ us : List Up, upTo (fun i => (us.getD i default).L) us.length = us.flatMap Up.L := by
  intro us
  have e : us = (List.range us.length).map (fun i => us.getD i default) := by
    apply List.ext_getElem
    · simp
    · intro i h1 h2
      simp [List.getD_eq_getElem?_getD, h1]
  conv => rhs; rw [e]
  rw [List.flatMap_map]
  rfl
/-- The rungs by their numbers. -/
def Rungs (w : World) (rb N : Nat) (kb ko : Nat → Nat) (V : Nat → Value) (L : Nat → List M) : Prop :=
  ∀ k, k ≤ N → ∀ W, Below w.heap.size w W → Calls Tryz.prog 130 #[.pointer (some ⟨rb, 0, none⟩), .int .i64 k] W (fun e w' => e = .returned (.pointer (some ⟨kb k, ko k, none⟩)) ∧ W = w') ∧ W.cell? ⟨kb k, ko k, none⟩ = some (V k) ∧ AtM W (V k) (L k)
theorem rungs_by {w : World} {rb : Nat} {most : Int} {bv av : Value} {B : List M} {us : List Up} (h : RungsOf w rb most bv B av us) :
    ∃ kb ko V L, Rungs w rb us.length kb ko V L ∧ (∀ k, k < us.length → L k = (us.getD k default).L) ∧ L us.length = B := by
  by_cases h0 : us.length = 0
  · refine ⟨fun _ => rb, fun _ => 0, fun _ => bv, fun _ => B, fun k hk W hb => ?_, fun k hk => by omega, rfl⟩
    have h1 := h.below hb
    obtain ⟨aa, acap, hav, -⟩ := RowAt.shape h1.abv
    have c2 := h1.c2
    rw [hav] at c2
    obtain rfl : k = us.length := by omega
    exact ⟨at_bot c2, h1.c0, h1.bot⟩
  · obtain ⟨ag, aoff, acap, hav, -⟩ := AtU.form h.abv (by omega)
    refine ⟨fun k => if k < us.length then ag else rb, fun k => if k < us.length then aoff + k * 8 else 0, fun k => if k < us.length then (us.getD k default).v else bv, fun k => if k < us.length then (us.getD k default).L else B, fun k hk W hb => ?_, fun k hk => if_pos hk, if_neg (by omega)⟩
    have h1 := h.below hb
    have c2 := h1.c2
    rw [hav] at c2
    by_cases hlt : k < us.length
    · simp only [if_pos hlt]
      have hR : RowU W ag aoff acap us := by
        obtain ⟨g', off', cap', e, hRU⟩ := AtU.form h1.abv (by omega)
        rw [hav] at e
        obtain ⟨⟨rfl, rfl⟩, rfl⟩ : (ag = g' ∧ aoff = off') ∧ acap = cap' := by simpa using e
        exact hRU
      refine ⟨at_up c2 k hlt, hR.slot k hlt, h1.each _ ?_⟩
      rw [getD_at us k hlt]
      exact List.getElem_mem hlt
    · simp only [if_neg hlt]
      obtain rfl : k = us.length := by omega
      exact ⟨at_bot c2, h1.c0, h1.bot⟩
theorem rungs_all {B : List M} {us : List Up} {L : Nat → List M} (h1 : ∀ k, k < us.length → L k = (us.getD k default).L) (h2 : L us.length = B) : upTo L (us.length + 1) = us.flatMap Up.L ++ B := by
  rw [upTo_succ, h2, upTo_congr us.length h1, upTo_rungs]
theorem msgs_of_at {w : World} {v : Value} {l : List M} (h : AtM w v l) (hf : ∀ m ∈ l, m.fits) : ∃ a cap, v = .slice a l.length cap ∧ Msgs w a l.length cap l := by
  rcases h with ⟨rfl, h0, _⟩ | ⟨g, off, cap, rfl, hR⟩
  · exact ⟨none, 0, by rw [h0], rfl, by omega, Nat.zero_le _, hf, .inl h0⟩
  · have hb := RowIn.bounds hR
    exact ⟨some ⟨g, off, none⟩, cap, rfl, rfl, hb.1, hb.2.1, hf, .inr ⟨g, off, rfl, fun i hi => RowM.at hR i hi⟩⟩

/-- Behind k rungs. -/
def SumUp (w : World) (L : Nat → List M) (k : Nat) (v : Value) (wr : World) : Prop := AtM wr v (upTo L k) ∧ (∀ j q, vext v 7 j q → w.heap.size ≤ j) ∧ Below w.heap.size w wr
theorem SumUp.step {w wr : World} {L : Nat → List M} {k : Nat} {v : Value} (h : SumUp w L k v wr) : ∀ v' w4, Hid (RowAt w4 34 7 v' ((upTo L k).length + (L k).length) (flat (upTo L k) ++ flat (L k))) → Hid (KeptC (vext v 7) wr w4) → Hid (∀ k q, vext v' 7 k q → vext v 7 k q ∨ wr.heap.size ≤ k) → Hid (SumUp w L (k + 1) v' w4) := by
  intro v' w4 r1 r2 r3
  obtain ⟨h1, h2, h3⟩ := h
  refine ⟨?_, fun j q hj => (r3.out j q hj).elim (h2 j q) (fun e => Nat.le_trans h3.size e), h3.trans (r2.out.below (fun k o _ e => h2 k o e) h3.size)⟩
  unfold AtM
  rw [upTo_succ, List.length_append, flat_append]
  exact r1.out
theorem FreshA.mono {B B' len : Nat} {a : Option Addr} (h : FreshA B' len a) (hb : B ≤ B') : FreshA B len a := h.imp id (fun ⟨g, e, hg⟩ => ⟨g, e, Nat.le_trans hb hg⟩)

set_option maxHeartbeats 8000000 in
set_option maxRecDepth 100000 in
theorem sorted_any {w : World} {hb rb mb : Nat} {most : Int} {bv av : Value} {B : List M} {us : List Up} {T : List M} (h : LadOf w hb rb mb most bv av B us T) :
    Calls Tryz.prog 121 #[.pointer (some ⟨rb, 0, none⟩)] w fun e w' => ∃ (a' : Option Addr) (c' : Nat), e = .returned (.slice a' T.length c') ∧ Hid (Msgs w' a' T.length c' T ∧ Below w.heap.size w w' ∧ FreshA w.heap.size T.length a') := by
  have mixed := mixed
  obtain ⟨i0, hi, hz0, hz1, hz2⟩ := info_parts infoM
  obtain ⟨kb, ko, V, L, hR, hL1, hL2⟩ := rungs_by h.rungs
  have hall := rungs_all hL1 hL2
  have hperm : (upTo L (us.length + 1)).Perm T := by
    rw [hall]
    refine List.Perm.trans ?_ h.same
    unfold held
    exact List.perm_append_comm
  have hlen := hperm.length_eq
  have hsm := h.small
  have hrl := held_rungs (B := B) h.stairs.up.full
  have hhl := h.hlen
  obtain ⟨aa, acap, hav, -⟩ := RowAt.shape h.rungs.abv
  have c2 := h.rungs.c2
  rw [hav] at c2
  have hw1 : IntKind.i64.wrap ((us.length : Int) + 1) = (us.length : Int) + 1 := half_wrap (n := us.length) (by omega)
  have hS0 : Hid (SumUp w L 0 (.slice none 0 0) w) := ⟨RowAt.nil _ _ _, fun j q e => (vext_nil e).elim, Below.refl _ _⟩
  have hbd : ∀ k, k ≤ us.length → (upTo L k).length + (L k).length ≤ 16384 := fun k hk => by
    have := upTo_mono L (k + 1) (us.length + 1) (by omega)
    rw [upTo_succ, List.length_append] at this
    omega
  have hbd' := Lib.hid hbd
  have hR' := Lib.hid hR
  have hend : Hid (∀ v wr, Hid (SumUp w L (us.length + 1) v wr) → ∃ a n c, v = .slice a n c ∧ Calls Tryz.prog 131 #[.slice a n c] wr fun e w' => ∃ (a' : Option Addr) (c' : Nat), e = .returned (.slice a' T.length c') ∧ Hid (Msgs w' a' T.length c' T ∧ Below w.heap.size w w' ∧ FreshA w.heap.size T.length a')) := by
    intro v wr hs
    obtain ⟨h1, h2, h3⟩ := hs.out
    obtain ⟨a, cap, rfl, hM⟩ := msgs_of_at h1 (fun m hm => h.fits m (hperm.mem_iff.1 hm))
    refine ⟨a, _, cap, rfl, (eSorted_new hM (by omega)).mono ?_⟩
    rintro e w' ⟨a', c', he, hq⟩
    obtain ⟨⟨q1, q2⟩, q3⟩ := hq.out
    rw [stab_unique hperm h.o (h.u.perm hperm.symm), hlen] at q1
    rw [hlen] at he q3
    exact ⟨a', c', he, q1, h3.trans (q2.mono h3.size), q3.mono h3.size⟩
  have hN : us.length ≤ 16384 := by omega
  clear h hall hL1 hL2 hrl hhl hlen hsm hav hR hbd hperm
  generalize us.length = N at *
  go_enter Tryz.func121, Tryz.ntmps121
  go_wp2_with (fail)
  go_loopw [11, 3] (fun s11 s3 wr => ∃ k : Nat, k ≤ N + 1 ∧ s11 = .int .i64 k ∧ Hid (SumUp w L k s3 wr)) (fun s11 _ _ => N + 1 - (intOf s11).toNat)
  case atStart => exact ⟨0, by omega, rfl, hS0⟩
  case round =>
    obtain ⟨k, hk, rfl, hs⟩ := hrel
    clear hS0
    by_cases hkn : k < N + 1
    · have hz : (k : Int) < (N : Int) + 1 := by omega
      obtain ⟨hat, hc, hA⟩ := hR'.out k (by omega) wr hs.out.2.2
      have hA' := Lib.hid hA
      have hst := Lib.hid (hs.out.step)
      have hA0 := Lib.hid hs.out.1
      have hb5 := hbd'.out k (by omega)
      have hone := flat_one (L k)
      have h63 : (upTo L k).length + (L k).length ≤ maxLen := by unfold maxLen; omega
      have hby : ((upTo L k).length + (L k).length) * 56 ≤ 140737488355328 := by omega
      have hwk : IntKind.i64.wrap ((k : Int) + 1) = (k : Int) + 1 := half_wrap (n := k) (by omega)
      clear hA hend
      go_upto_region 6 with (first
        | (go_at_call 130; refine hat.mono ?_; rintro e w1 ⟨rfl, rfl⟩)
        | (refine wpList_append_rowC rfl (.tmp 14) (.tmp 20) 38 rfl hA0.out i0 _ 56 Tryz.underlying38 hi hz0 hz1 hz2 rfl (by omega) rfl rfl hA'.out hone h63 hby ?_; intro v1 w1 r1 r2 r3; have hs1 := hst.out v1 w1 r1 r2 r3; clear r1 r2 r3))
      go_wp2
      go_roundw
      case rel => exact ⟨k + 1, by omega, by go_num, hs1⟩
      case measure => simp [intOf]; omega
    · obtain rfl : k = N + 1 := by omega
      have hz : ¬ ((N + 1 : Nat) : Int) < (N : Int) + 1 := by omega
      obtain ⟨a, n, c, rfl, hcall⟩ := hend.out _ wr hs
      have hcall' := Lib.hid hcall
      clear hcall hend
      go_wp2_with (go_at_call 131; refine hcall'.out.mono ?_; rintro e w2 ⟨a', c', rfl, hq⟩)
      go_ret
      exact ⟨a', c', rfl, hq⟩
end Go.Proofs.YtjlbkdghlijoeaaGreat
namespace Go.Proofs.YtjlbkdghlijoeaaGreat
open Go.ChangeShapes Go.WideShapes Go.ChangeAt Go.Shelf Go.RowKit Go.Lib Go.Sort Go.Deep Go.Maps
set_option linter.unusedVariables false

/-- A row of messages as messages. -/
theorem RowM.msgs {w : World} {g off cap : Nat} {l : List M} (h : RowM w g off cap l) (hf : ∀ m ∈ l, m.fits) : Msgs w (some ⟨g, off, none⟩) l.length cap l := by
  have hb := RowIn.bounds h
  exact ⟨rfl, hb.1, hb.2.1, hf, .inr ⟨g, off, rfl, fun i hi => h.at i hi⟩⟩
theorem cells_zero (n : Nat) : (madeCells (Value.agg #[.int .i64 0, .int .i64 0, .int .i64 0, .int .i64 0, .int .i64 0, .int .i64 0, .bool false]).cells (n * 7)).toList = flat (List.replicate n zeroM) := by
  apply List.ext_getElem?
  intro j
  by_cases hj : j < n * 7
  · have e : j = j / 7 * 7 + j % 7 := by omega
    have hl : (List.replicate n zeroM).length = n := List.length_replicate
    have h1 := flat_get (List.replicate n zeroM) (j / 7) (j % 7) (by omega) (by omega)
    rw [← e] at h1
    rw [h1]
    have h2 : (List.replicate n zeroM).getD (j / 7) default = zeroM := by simp [List.getD_eq_getElem?_getD, show j / 7 < n by omega]
    rw [h2]
    have h3 : (madeCells (Value.agg #[.int .i64 0, .int .i64 0, .int .i64 0, .int .i64 0, .int .i64 0, .int .i64 0, .bool false]).cells (n * 7)).toList[j]? = some (#[Value.int .i64 0, .int .i64 0, .int .i64 0, .int .i64 0, .int .i64 0, .int .i64 0, .bool false][j % 7]!) := by
      simp [madeCells, Value.cells, hj]
    rw [h3]
    rcases (by omega : j % 7 = 0 ∨ j % 7 = 1 ∨ j % 7 = 2 ∨ j % 7 = 3 ∨ j % 7 = 4 ∨ j % 7 = 5 ∨ j % 7 = 6) with e | e | e | e | e | e | e <;> (rw [e]; rfl)
  · rw [List.getElem?_eq_none (by rw [Array.length_toList, size_madeCells]; omega), List.getElem?_eq_none (by rw [flat_length, List.length_replicate]; omega)]
/-- What is filled, and what is not yet. -/
def part (n : Nat) (pre : List M) : List M := pre ++ List.replicate (n - pre.length) zeroM
theorem part_len {n : Nat} {pre : List M} (h : pre.length ≤ n) : (part n pre).length = n := by simp [part]; omega
theorem part_step {n : Nat} {pre l : List M} (h : pre.length + l.length ≤ n) : splice (part n pre) pre.length l = part n (pre ++ l) := by
  have hp : pre.length + l.length ≤ (part n pre).length := by rw [part_len (by omega)]; exact h
  apply List.ext_getElem?
  intro j
  rw [splice_get _ _ _ hp]
  unfold part
  by_cases a : j < pre.length
  · rw [if_pos a, List.getElem?_append_left a, List.append_assoc, List.getElem?_append_left a]
  · rw [if_neg a]
    by_cases b : j < pre.length + l.length
    · rw [if_pos b, List.append_assoc, List.getElem?_append_right (by omega), List.getElem?_append_left (by omega)]
    · rw [if_neg b, List.getElem?_append_right (by omega), List.getElem?_append_right (by rw [List.length_append]; omega)]
      rw [List.getElem?_replicate, List.getElem?_replicate, List.length_append]
      by_cases c : j < n
      · rw [if_pos (by omega), if_pos (by omega)]
      · rw [if_neg (by omega), if_neg (by omega)]
theorem part_all (l : List M) : part l.length l = l := by simp [part]
theorem pre_step {ds : List Int} (L : Int → List M) {i : Nat} (hi : i < ds.length) : (ds.take (i + 1)).flatMap L = (ds.take i).flatMap L ++ L (ds.getD i 0) := by
  rw [List.take_succ_eq_append_getElem hi, List.flatMap_append]
  simp [List.getD_eq_getElem?_getD, hi]
theorem pre_le (ds : List Int) (L : Int → List M) (i : Nat) : ((ds.take i).flatMap L).length ≤ (ds.flatMap L).length := by
  conv => rhs; rw [← List.take_append_drop i ds]
  rw [List.flatMap_append, List.length_append]
  omega

set_option maxHeartbeats 4000000 in
set_option maxRecDepth 100000 in
theorem joined_any {w : World} {db lb : Nat} {W : Int} {ov : Value} {ds : List Int} {L : Int → List M} {fv : Int → Value} (h : DaysOf w db W lb ov ds L fv) :
    Calls Tryz.prog 93 #[.pointer (some ⟨db, 0, none⟩), .int .i64 (ds.flatMap L).length] w fun e w' => ∃ (a' : Option Addr) (c' : Nat), e = .returned (.slice a' (ds.flatMap L).length c') ∧
      Hid (Msgs w' a' (ds.flatMap L).length c' (ds.flatMap L) ∧ Below w.heap.size w w' ∧ FreshA w.heap.size (ds.flatMap L).length a') := by
  have mixed := mixed
  obtain ⟨i0, hi, hz0, hz1, hz2⟩ := info_parts infoM
  have hsm := h.small
  obtain ⟨n, hn⟩ : ∃ n, n = (ds.flatMap L).length := ⟨_, rfl⟩
  have hdsl : ds.length ≤ 16384 := by have := days_len (fun x hx => (h.days.2 x hx).1) (ds := ds) (L := L); omega
  have hpl : Hid (∀ i, ((ds.take i).flatMap L).length ≤ n) := fun i => by rw [hn]; exact pre_le ds L i
  have hn' := Lib.hid hn
  rw [← hn] at hsm ⊢
  clear hn
  have h' := Lib.hid h
  obtain ⟨a, capo, hov, hlc⟩ := RowAt.shape h.order
  -- the making of the row
  have hmk : Hid (∀ w', w'.ownsRow w.heap.size 34 7 (.slice (some ⟨w.heap.size, 0, none⟩) n n) n (madeCells (Value.agg #[.int .i64 0, .int .i64 0, .int .i64 0, .int .i64 0, .int .i64 0, .int .i64 0, .bool false]).cells (n * 7)).toList → w.grownBy w' none →
      RowM w' w.heap.size 0 n (part n []) ∧ Below w.heap.size w w') := by
    intro w' ho hg
    have h1 := RowIn.of_own ho
    rw [cells_zero] at h1
    refine ⟨?_, hg.os, hg.tape, hg.output, hg.size, fun k hk => hg.block k hk (by simp)⟩
    unfold RowM
    rw [part_len (Nat.zero_le _)]
    simpa [part] using h1
  -- a round's look-ups and copy
  have hrd : Hid (∀ i, i < ds.length → ∀ wr, Below w.heap.size w wr → RowM wr w.heap.size 0 n (part n ((ds.take i).flatMap L)) → ∃ g2 off2 cap2 k : Nat, ∃ dd : Int, dd = ds.getD i 0 ∧ k = (L dd).length ∧ 0 < k ∧ ((ds.take i).flatMap L).length + k ≤ n ∧
      (∃ go oo, a = some ⟨go, oo, none⟩ ∧ wr.cell? ⟨go, oo + i, none⟩ = some (.int .i64 dd)) ∧
      (Instr.lookup 98 (.map (some lb)) (.int .i64 dd) false).run Tryz.prog wr.drew = .ok (.slice (some ⟨g2, off2, none⟩) k cap2) wr.drew ∧ (∀ j u, (flat (L dd))[j]? = some u → wr.drew.cell? ((⟨g2, off2, none⟩ : Addr).add j) = some u) ∧ (flat (L dd)).length = k * 7) := by
    intro i hil wr hb hr
    have h1 := h'.out.below hb
    have hd : ds.getD i 0 ∈ ds := by
      have e : ds.getD i 0 = ds[i] := by simp [List.getD_eq_getElem?_getD, hil]
      rw [e]
      exact List.getElem_mem hil
    have hk0 : 0 < (L (ds.getD i 0)).length := List.length_pos_iff.2 (h1.days.2 _ hd).1
    obtain ⟨g2, off2, cap2, hv, hR2⟩ := AtM.form (h1.each _ hd) hk0
    obtain ⟨go, oo, co, ho, hRo⟩ := AtI.form h1.order (by omega)
    have hlk := h1.lists.look hd (h1.wf hd)
    rw [hv] at hlk
    have hps := pre_step L hil
    have hpl1 := hpl.out (i + 1)
    rw [hps, List.length_append] at hpl1
    have hat : a = some ⟨go, oo, none⟩ := by
      rw [hov] at ho
      cases ho
      rfl
    refine ⟨g2, off2, cap2, _, _, rfl, rfl, hk0, hpl1, ⟨go, oo, hat, hRo.cellI i hil⟩, ?_, fun j u hj => ?_, by rw [flat_length]⟩
    · have := (h1.lists.below' (Below.refl _ wr).drew).look hd (h1.wf hd)
      rwa [hv] at this
    · have hRd : RowM wr.drew g2 off2 cap2 (L (ds.getD i 0)) := RowIn.block hR2 rfl
      rw [Addr.add_lit]
      exact RowIn.cell hRd hj
  have c1w : Hid (∀ wr, Below w.heap.size w wr → wr.cell? ⟨db, 1, none⟩ = some (.map (some lb)) ∧ wr.cell? ⟨db, 2, none⟩ = some ov) := fun wr hb => ⟨(h'.out.below hb).c1, (h'.out.below hb).c2⟩
  rw [hov] at c1w
  clear h hov hlc
  have hnI : Hid (n ≤ 16384) := hsm
  go_enter Tryz.func93, Tryz.ntmps93
  go_upto_region 3 with ((at_make; refine wpList_make_full _ rfl _ _ 38 rfl w.heap.size 34 i0 _ 7 Tryz.underlying38 hi hz0 hz1 .i64 .i64 _ _ n rfl rfl rfl rfl (by rw [hz2]; omega) (by unfold maxLen; omega) (Nat.le_refl _) ?_; intro w1 ho hg; have hR1 := Lib.hid (hmk.out w1 ho hg); clear ho hg))
  obtain ⟨c1, c2⟩ := c1w.out w1 hR1.out.2
  go_wp2
  clear c1 c2
  go_loopw [16, 6] (fun s16 s6 wr => ∃ i : Nat, i ≤ ds.length ∧ s16 = .int .i64 i ∧ s6 = .int .i64 ((ds.take i).flatMap L).length ∧ Hid (RowM wr w.heap.size 0 n (part n ((ds.take i).flatMap L)) ∧ Below w.heap.size w wr)) (fun s16 _ _ => ds.length - (intOf s16).toNat)
  case atStart => exact ⟨0, Nat.zero_le _, rfl, rfl, hR1.out⟩
  case round =>
    obtain ⟨i, hil, rfl, rfl, hM⟩ := hrel
    clear hR1
    by_cases hlt : i < ds.length
    · have hz : (i : Int) < (ds.length : Int) := by omega
      obtain ⟨g2, off2, cap2, k, dd, hdd, hk, hk0, hke, ⟨go, oo, rfl, co⟩, hlk, hsrc, hcs⟩ := hrd.out i hlt wr hM.out.2 hM.out.1
      obtain ⟨c1, -⟩ := c1w.out wr hM.out.2
      have hps := Lib.hid (pre_step L hlt)
      rw [← hdd] at hps
      have hpre : (ds.take i).flatMap L = (ds.take i).flatMap L := rfl
      generalize (ds.take i).flatMap L = pre at *
      have hkL := Lib.hid hk
      have hiI : Hid (i < ds.length) := hlt
      clear hdd hpre hk
      generalize L dd = l at *
      have hR2 : RowIn wr.drew 34 7 w.heap.size 0 n n (flat (part n pre)) := by
        have h1 : RowM wr.drew w.heap.size 0 n (part n pre) := RowIn.block hM.out.1 rfl
        unfold RowM at h1
        rwa [part_len (by omega)] at h1
      have hone := flat_one l
      have hne : ¬ n = pre.length := by omega
      have he1 : pre.length ≤ n := by omega
      have he2 : (pre.length : Int) ≤ (n : Int) := by omega
      have hmn : Nat.min k (n - pre.length) = k := by show min _ _ = _; omega
      have hfit : pre.length + k ≤ n := hke
      have hw1 : IntKind.i64.wrap ((pre.length : Int) + (k : Int)) = (pre.length : Int) + (k : Int) := IntWalk.i64_in _ (by have := hnI.out; omega)
      have hw2 : IntKind.i64.wrap ((i : Int) + 1) = (i : Int) + 1 := IntWalk.i64_in _ (by omega)
      have c5 : wr.drew.cell? ⟨db, 1, none⟩ = some (.map (some lb)) := c1
      have hdbl : db ≠ w.heap.size := by have := h'.out.lt; omega
      go_upto_region 6 with (fail)
      clear co c1
      go_region_held3 (fun w' => w'.cell? ⟨db, 1, none⟩ = some (.map (some lb)))
        (first | exact c5 | exact c6)
        (first | (refine step_copy_row rfl (.tmp 23) (.tmp 29) 38 38 rfl hR2 34 Tryz.underlying38 infoS _ _ _ _ _ _ pre.length k (flat l) rfl rfl hcs hmn (fun h0 => ⟨by simp, _, rfl, hsrc⟩) hfit hone ?_; intro w4 hr4 hk4; have c6 : w4.cell? ⟨db, 1, none⟩ = some (.map (some lb)) := by rw [World.cell?_of_block (a := ⟨db, 1, none⟩) (hk4.out.block db (World.block_lt_of_cell? _ _ c5) hdbl)]; exact c5))
      go_wp2
      go_roundw
      case rel =>
        refine ⟨i + 1, hiI.out, by go_num, ?_, ?_, ?_⟩
        · rw [hps.out, List.length_append, ← hkL.out]
          go_num
        · rw [hps.out]
          have e1 := fm_splice encM_length (part n pre) l pre.length
          have e2 : part n (pre ++ l) = splice (part n pre) pre.length l := (part_step (by rw [← hkL.out]; exact hke)).symm
          unfold RowM
          rw [part_len (by rw [List.length_append, ← hkL.out]; exact hke), e2]
          show RowIn w4 34 7 w.heap.size 0 n n ((splice (part n pre) pre.length l).flatMap encM)
          rw [← e1]
          exact hr4.out
        · exact hM.out.2.trans (hk4.out.undrew.below (fun k _ e => by omega) hM.out.2.size)
      case measure => have := hiI.out; simp [intOf]; omega
    · obtain rfl : i = ds.length := by omega
      have hz : ¬ (ds.length : Int) < (ds.length : Int) := by omega
      rw [List.take_length] at hM
      go_wp2
      go_ret
      refine ⟨some ⟨w.heap.size, 0, none⟩, n, rfl, ?_⟩
      obtain ⟨h1, h2⟩ := hM.out
      have e0 := hn'.out
      have e1 := part_all (ds.flatMap L)
      rw [← e0] at e1
      rw [e1] at h1
      have hm := h1.msgs h'.out.fits
      rw [← e0] at hm
      exact ⟨hm, h2, .inr ⟨_, rfl, Nat.le_refl _⟩⟩
end Go.Proofs.YtjlbkdghlijoeaaGreat
