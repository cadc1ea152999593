/-
  Days: all their messages, joined.
-/
import Derived.Test.YticffeklmhcniaaYO
import Derived.OwnWalk
namespace Go.Proofs.Yticffeklmhcniaa
open Go.ChangeShapes Go.WideShapes Go.ChangeAt Go.Shelf Go.RowKit Go.Lib Go.Sort Go.Deep Go.Maps
set_option linter.unusedVariables false

/-- A new address, or none that counts. -/
def FreshA (B len : Nat) (a : Option Addr) : Prop := len = 0 ∨ ∃ g, a = some ⟨g, 0, none⟩ ∧ B ≤ g
/-- A row of messages as messages. -/
theorem RowM.msgs {w : World} {g off cap : Nat} {l : List M} (h : RowM w g off cap l) (hf : ∀ m ∈ l, m.fits) : Msgs w (some ⟨g, off, none⟩) l.length cap l := by
  have hb := RowIn.bounds h
  exact ⟨rfl, hb.1, hb.2.1, hf, .inr ⟨g, off, rfl, fun i hi => h.at i hi⟩⟩
theorem cells_zero (n : Nat) : (madeCells (Value.agg #[.int .i64 0, .int .i64 0, .int .i64 0, .int .i64 0, .int .i64 0, .int .i64 0, .bool false]).cells (n * 7)).toList = flat (List.replicate n zeroM) := by
  apply List.ext_getElem?
  intro j
  by_cases hj : j < n * 7
  · have e : j = j / 7 * 7 + j % 7 := by omega
    have hl : (List.replicate n zeroM).length = n := List.length_replicate
    have h1 := flat_get (List.replicate n zeroM) (j / 7) (j % 7) (by omega) (by omega)
    rw [← e] at h1
    rw [h1]
    have h2 : (List.replicate n zeroM).getD (j / 7) default = zeroM := by simp [List.getD_eq_getElem?_getD, show j / 7 < n by omega]
    rw [h2]
    have h3 : (madeCells (Value.agg #[.int .i64 0, .int .i64 0, .int .i64 0, .int .i64 0, .int .i64 0, .int .i64 0, .bool false]).cells (n * 7)).toList[j]? = some (#[Value.int .i64 0, .int .i64 0, .int .i64 0, .int .i64 0, .int .i64 0, .int .i64 0, .bool false][j % 7]!) := by
      simp [madeCells, Value.cells, hj]
    rw [h3]
    rcases (by omega : j % 7 = 0 ∨ j % 7 = 1 ∨ j % 7 = 2 ∨ j % 7 = 3 ∨ j % 7 = 4 ∨ j % 7 = 5 ∨ j % 7 = 6) with e | e | e | e | e | e | e <;> (rw [e]; rfl)
  · rw [List.getElem?_eq_none (by rw [Array.length_toList, size_madeCells]; omega), List.getElem?_eq_none (by rw [flat_length, List.length_replicate]; omega)]
/-- What is filled, and what is not yet. -/
def part (n : Nat) (pre : List M) : List M := pre ++ List.replicate (n - pre.length) zeroM
theorem part_len {n : Nat} {pre : List M} (h : pre.length ≤ n) : (part n pre).length = n := by simp [part]; omega
theorem part_step {n : Nat} {pre l : List M} (h : pre.length + l.length ≤ n) : splice (part n pre) pre.length l = part n (pre ++ l) := by
  have hp : pre.length + l.length ≤ (part n pre).length := by rw [part_len (by omega)]; exact h
  apply List.ext_getElem?
  intro j
  rw [splice_get _ _ _ hp]
  unfold part
  by_cases a : j < pre.length
  · rw [if_pos a, List.getElem?_append_left a, List.append_assoc, List.getElem?_append_left a]
  · rw [if_neg a]
    by_cases b : j < pre.length + l.length
    · rw [if_pos b, List.append_assoc, List.getElem?_append_right (by omega), List.getElem?_append_left (by omega)]
    · rw [if_neg b, List.getElem?_append_right (by omega), List.getElem?_append_right (by rw [List.length_append]; omega)]
      rw [List.getElem?_replicate, List.getElem?_replicate, List.length_append]
      by_cases c : j < n
      · rw [if_pos (by omega), if_pos (by omega)]
      · rw [if_neg (by omega), if_neg (by omega)]
theorem part_all (l : List M) : part l.length l = l := by simp [part]
theorem pre_step {ds : List Int} (L : Int → List M) {i : Nat} (hi : i < ds.length) : (ds.take (i + 1)).flatMap L = (ds.take i).flatMap L ++ L (ds.getD i 0) := by
  rw [List.take_succ_eq_append_getElem hi, List.flatMap_append]
  simp [List.getD_eq_getElem?_getD, hi]
theorem pre_le (ds : List Int) (L : Int → List M) (i : Nat) : ((ds.take i).flatMap L).length ≤ (ds.flatMap L).length := by
  conv => rhs; rw [← List.take_append_drop i ds]
  rw [List.flatMap_append, List.length_append]
  omega

set_option maxHeartbeats 4000000 in
set_option maxRecDepth 100000 in
theorem joined_any {w : World} {db lb : Nat} {W : Int} {ov : Value} {ds : List Int} {L : Int → List M} {fv : Int → Value} (h : DaysOf w db W lb ov ds L fv) :
    Calls Try.prog 26 #[.pointer (some ⟨db, 0, none⟩), .int .i64 (ds.flatMap L).length] w fun e w' => ∃ (a' : Option Addr) (c' : Nat), e = .returned (.slice a' (ds.flatMap L).length c') ∧
      Hid (Msgs w' a' (ds.flatMap L).length c' (ds.flatMap L) ∧ Below w.heap.size w w' ∧ FreshA w.heap.size (ds.flatMap L).length a') := by
  have mixed := mixed
  obtain ⟨i0, hi, hz0, hz1, hz2⟩ := info_parts infoM
  have hsm := h.small
  obtain ⟨n, hn⟩ : ∃ n, n = (ds.flatMap L).length := ⟨_, rfl⟩
  have hdsl : ds.length ≤ 16384 := by have := days_len (fun x hx => (h.days.2 x hx).1) (ds := ds) (L := L); omega
  have hpl : Hid (∀ i, ((ds.take i).flatMap L).length ≤ n) := fun i => by rw [hn]; exact pre_le ds L i
  have hn' := Lib.hid hn
  rw [← hn] at hsm ⊢
  clear hn
  have h' := Lib.hid h
  obtain ⟨a, capo, hov, hlc⟩ := RowAt.shape h.order
  -- the making of the row
  have hmk : Hid (∀ w', w'.ownsRow w.heap.size 34 7 (.slice (some ⟨w.heap.size, 0, none⟩) n n) n (madeCells (Value.agg #[.int .i64 0, .int .i64 0, .int .i64 0, .int .i64 0, .int .i64 0, .int .i64 0, .bool false]).cells (n * 7)).toList → w.grownBy w' none →
      RowM w' w.heap.size 0 n (part n []) ∧ Below w.heap.size w w') := by
    intro w' ho hg
    have h1 := RowIn.of_own ho
    rw [cells_zero] at h1
    refine ⟨?_, hg.os, hg.tape, hg.output, hg.size, fun k hk => hg.block k hk (by simp)⟩
    unfold RowM
    rw [part_len (Nat.zero_le _)]
    simpa [part] using h1
  -- a round's look-ups and copy
  have hrd : Hid (∀ i, i < ds.length → ∀ wr, Below w.heap.size w wr → RowM wr w.heap.size 0 n (part n ((ds.take i).flatMap L)) → ∃ g2 off2 cap2 k : Nat, ∃ dd : Int, dd = ds.getD i 0 ∧ k = (L dd).length ∧ 0 < k ∧ ((ds.take i).flatMap L).length + k ≤ n ∧
      (∃ go oo, a = some ⟨go, oo, none⟩ ∧ wr.cell? ⟨go, oo + i, none⟩ = some (.int .i64 dd)) ∧
      (Instr.lookup 75 (.map (some lb)) (.int .i64 dd) false).run Try.prog wr.drew = .ok (.slice (some ⟨g2, off2, none⟩) k cap2) wr.drew ∧ (∀ j u, (flat (L dd))[j]? = some u → wr.drew.cell? ((⟨g2, off2, none⟩ : Addr).add j) = some u) ∧ (flat (L dd)).length = k * 7) := by
    intro i hil wr hb hr
    have h1 := h'.out.below hb
    have hd : ds.getD i 0 ∈ ds := by
      have e : ds.getD i 0 = ds[i] := by simp [List.getD_eq_getElem?_getD, hil]
      rw [e]
      exact List.getElem_mem hil
    have hk0 : 0 < (L (ds.getD i 0)).length := List.length_pos_iff.2 (h1.days.2 _ hd).1
    obtain ⟨g2, off2, cap2, hv, hR2⟩ := AtM.form (h1.each _ hd) hk0
    obtain ⟨go, oo, co, ho, hRo⟩ := AtI.form h1.order (by omega)
    have hlk := h1.lists.look hd (h1.wf hd)
    rw [hv] at hlk
    have hps := pre_step L hil
    have hpl1 := hpl.out (i + 1)
    rw [hps, List.length_append] at hpl1
    have hat : a = some ⟨go, oo, none⟩ := by
      rw [hov] at ho
      cases ho
      rfl
    refine ⟨g2, off2, cap2, _, _, rfl, rfl, hk0, hpl1, ⟨go, oo, hat, hRo.cellI i hil⟩, ?_, fun j u hj => ?_, by rw [flat_length]⟩
    · have := (h1.lists.below' (Below.refl _ wr).drew).look hd (h1.wf hd)
      rwa [hv] at this
    · have hRd : RowM wr.drew g2 off2 cap2 (L (ds.getD i 0)) := RowIn.block hR2 rfl
      rw [Addr.add_lit]
      exact RowIn.cell hRd hj
  have c1w : Hid (∀ wr, Below w.heap.size w wr → wr.cell? ⟨db, 1, none⟩ = some (.map (some lb)) ∧ wr.cell? ⟨db, 2, none⟩ = some ov) := fun wr hb => ⟨(h'.out.below hb).c1, (h'.out.below hb).c2⟩
  rw [hov] at c1w
  clear h hov hlc
  have hnI : Hid (n ≤ 16384) := hsm
  go_enter Try.func26, Try.ntmps26
  go_upto_region 3 with ((at_make; refine wpList_make_full _ rfl _ _ 38 rfl w.heap.size 34 i0 _ 7 Try.underlying38 hi hz0 hz1 .i64 .i64 _ _ n rfl rfl rfl rfl (by rw [hz2]; omega) (by unfold maxLen; omega) (Nat.le_refl _) ?_; intro w1 ho hg; have hR1 := Lib.hid (hmk.out w1 ho hg); clear ho hg))
  obtain ⟨c1, c2⟩ := c1w.out w1 hR1.out.2
  go_wp2
  clear c1 c2
  go_loopw [16, 6] (fun s16 s6 wr => ∃ i : Nat, i ≤ ds.length ∧ s16 = .int .i64 i ∧ s6 = .int .i64 ((ds.take i).flatMap L).length ∧ Hid (RowM wr w.heap.size 0 n (part n ((ds.take i).flatMap L)) ∧ Below w.heap.size w wr)) (fun s16 _ _ => ds.length - (intOf s16).toNat)
  case atStart => exact ⟨0, Nat.zero_le _, rfl, rfl, hR1.out⟩
  case round =>
    obtain ⟨i, hil, rfl, rfl, hM⟩ := hrel
    clear hR1
    by_cases hlt : i < ds.length
    · have hz : (i : Int) < (ds.length : Int) := by omega
      obtain ⟨g2, off2, cap2, k, dd, hdd, hk, hk0, hke, ⟨go, oo, rfl, co⟩, hlk, hsrc, hcs⟩ := hrd.out i hlt wr hM.out.2 hM.out.1
      obtain ⟨c1, -⟩ := c1w.out wr hM.out.2
      have hps := Lib.hid (pre_step L hlt)
      rw [← hdd] at hps
      have hpre : (ds.take i).flatMap L = (ds.take i).flatMap L := rfl
      generalize (ds.take i).flatMap L = pre at *
      have hkL := Lib.hid hk
      have hiI : Hid (i < ds.length) := hlt
      clear hdd hpre hk
      generalize L dd = l at *
      have hR2 : RowIn wr.drew 34 7 w.heap.size 0 n n (flat (part n pre)) := by
        have h1 : RowM wr.drew w.heap.size 0 n (part n pre) := RowIn.block hM.out.1 rfl
        unfold RowM at h1
        rwa [part_len (by omega)] at h1
      have hone := flat_one l
      have hne : ¬ n = pre.length := by omega
      have he1 : pre.length ≤ n := by omega
      have he2 : (pre.length : Int) ≤ (n : Int) := by omega
      have hmn : Nat.min k (n - pre.length) = k := by show min _ _ = _; omega
      have hfit : pre.length + k ≤ n := hke
      have hw1 : IntKind.i64.wrap ((pre.length : Int) + (k : Int)) = (pre.length : Int) + (k : Int) := IntWalk.i64_in _ (by have := hnI.out; omega)
      have hw2 : IntKind.i64.wrap ((i : Int) + 1) = (i : Int) + 1 := IntWalk.i64_in _ (by omega)
      have c5 : wr.drew.cell? ⟨db, 1, none⟩ = some (.map (some lb)) := c1
      have hdbl : db ≠ w.heap.size := by have := h'.out.lt; omega
      go_upto_region 6 with (fail)
      clear co c1
      go_region_held3 (fun w' => w'.cell? ⟨db, 1, none⟩ = some (.map (some lb)))
        (first | exact c5 | exact c6)
        (first | (refine step_copy_row rfl (.tmp 23) (.tmp 29) 38 38 rfl hR2 34 Try.underlying38 infoS _ _ _ _ _ _ pre.length k (flat l) rfl rfl hcs hmn (fun h0 => ⟨by simp, _, rfl, hsrc⟩) hfit hone ?_; intro w4 hr4 hk4; have c6 : w4.cell? ⟨db, 1, none⟩ = some (.map (some lb)) := by rw [World.cell?_of_block (a := ⟨db, 1, none⟩) (hk4.out.block db (World.block_lt_of_cell? _ _ c5) hdbl)]; exact c5))
      go_wp2
      go_roundw
      case rel =>
        refine ⟨i + 1, hiI.out, by go_num, ?_, ?_, ?_⟩
        · rw [hps.out, List.length_append, ← hkL.out]
          go_num
        · rw [hps.out]
          have e1 := fm_splice encM_length (part n pre) l pre.length
          have e2 : part n (pre ++ l) = splice (part n pre) pre.length l := (part_step (by rw [← hkL.out]; exact hke)).symm
          unfold RowM
          rw [part_len (by rw [List.length_append, ← hkL.out]; exact hke), e2]
          show RowIn w4 34 7 w.heap.size 0 n n ((splice (part n pre) pre.length l).flatMap encM)
          rw [← e1]
          exact hr4.out
        · exact hM.out.2.trans (hk4.out.undrew.below (fun k _ e => by omega) hM.out.2.size)
      case measure => have := hiI.out; simp [intOf]; omega
    · obtain rfl : i = ds.length := by omega
      have hz : ¬ (ds.length : Int) < (ds.length : Int) := by omega
      rw [List.take_length] at hM
      go_wp2
      go_ret
      refine ⟨some ⟨w.heap.size, 0, none⟩, n, rfl, ?_⟩
      obtain ⟨h1, h2⟩ := hM.out
      have e0 := hn'.out
      have e1 := part_all (ds.flatMap L)
      rw [← e0] at e1
      rw [e1] at h1
      have hm := h1.msgs h'.out.fits
      rw [← e0] at hm
      exact ⟨hm, h2, .inr ⟨_, rfl, Nat.le_refl _⟩⟩
end Go.Proofs.Yticffeklmhcniaa
