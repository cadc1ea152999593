/-
  Two queues side by side.
-/
import Derived.Test.YtbalbachmeiehaaHAC
import Derived.Test.YtbalbachmeiehaaHLT
import Derived.Test.YtbalbachmeiehaaSame
namespace Go.Proofs.Ytbalbachmeiehaa
open Go.ChangeShapes Go.WideShapes Go.ChangeAt Go.Shelf Go.RowKit Go.Lib Go.Sort Go.Deep Go.Maps
set_option linter.unusedVariables false

/-- Two queues, the first of A, the second of P; behind both a box that holds o. -/
def Duo (w wr : World) (Bp Bo n : Nat) (A P : List M) (o : M) : Prop :=
  ∃ v v2, QAt wr (w.heap.size + 3) (w.heap.size + 2) w.heap.size (w.heap.size + 1) n v A ∧ QAt wr (Bp + 3) (Bp + 2) Bp (Bp + 1) n v2 P ∧ (∀ g, v.ownBlock = some g → Bo < g ∧ g < wr.heap.size ∧ v2.ownBlock ≠ some g) ∧ (∀ g, v2.ownBlock = some g → Bo < g ∧ g < wr.heap.size) ∧
    BoxM wr Bo o ∧ Below w.heap.size w wr ∧ w.heap.size + 3 ≤ Bp ∧ Bp + 3 ≤ Bo
theorem Duo.below {w wr w' : World} {Bp Bo n : Nat} {A P : List M} {o : M} (h : Duo w wr Bp Bo n A P o) (hb : Below wr.heap.size wr w') : Duo w w' Bp Bo n A P o := by
  obtain ⟨v, v2, h1, h2, h3, h4, h5, h6, h7, h8⟩ := h
  refine ⟨v, v2, h1.below hb, h2.below hb, fun g hg => ⟨(h3 g hg).1, Nat.lt_of_lt_of_le (h3 g hg).2.1 hb.size, (h3 g hg).2.2⟩, fun g hg => ⟨(h4 g hg).1, Nat.lt_of_lt_of_le (h4 g hg).2 hb.size⟩, h5.kept (S := fun _ => False) (.of_below hb) (fun e => e), h6.trans (hb.mono h6.size), h7, h8⟩
theorem Duo.mono {w wr : World} {Bp Bo n n' : Nat} {A P : List M} {o : M} (h : Duo w wr Bp Bo n A P o) (hn : n ≤ n') : Duo w wr Bp Bo n' A P o := by
  obtain ⟨v, v2, h1, h2, h3⟩ := h
  exact ⟨v, v2, h1.mono hn, h2.mono hn, h3⟩
/-- The box rewritten. -/
theorem Duo.box {w wr w' : World} {Bp Bo n : Nat} {A P : List M} {o o' : M} (h : Duo w wr Bp Bo n A P o) (hk : KeptOff (fun k => k = Bo) wr w') (hb : BoxM w' Bo o') : Duo w w' Bp Bo n A P o' := by
  obtain ⟨v, v2, h1, h2, h3, h4, h5, h6, h7, h8⟩ := h
  refine ⟨v, v2, h1.kept hk (by omega) (by omega) (by omega) (fun k e hh => by have := (h3 k e).1; omega), h2.kept hk (by omega) (by omega) (by omega) (fun k e hh => by have := (h4 k e).1; omega),
    fun g hg => ⟨(h3 g hg).1, Nat.lt_of_lt_of_le (h3 g hg).2.1 hk.size, (h3 g hg).2.2⟩, fun g hg => ⟨(h4 g hg).1, Nat.lt_of_lt_of_le (h4 g hg).2 hk.size⟩, hb, h6.trans (hk.below (fun k _ e => by omega) h6.size), h7, h8⟩
/-- A push into the first. -/
theorem Duo.pushQ {w wr w2 : World} {Bp Bo n Bm : Nat} {A P : List M} {o m : M} (h : Duo w wr Bp Bo n A P o) (hb : Below wr.heap.size wr w2) (hm : BoxM w2 Bm m) (hB : wr.heap.size ≤ Bm) (hf : m.fits) (hn : hasS A m.k.f m.u = false) (hl : A.length < 16384) (hl2 : n < maxLen) :
    Calls Try.prog 15 #[.pointer (some ⟨w.heap.size + 2, 0, none⟩), m.val] w2 fun e w' => e = .returned (.int .i64 0) ∧ Hid (BoxM w' Bm m ∧ Duo w w' Bp Bo (n + 1) (mg ltM A [m]) P o) := by
  obtain ⟨v, v2, h1, h2, h3, h4, h5, h6, h7, h8⟩ := h
  have hs2 := hb.size
  have hbo0 : Bo < wr.heap.size := h5.lt
  refine (hPush_takes (h1.below hb) m hf hn hl hl2).mono ?_
  rintro e w' ⟨he, v', hq', hst, hrf⟩
  have hsz := hst.size
  refine ⟨he, hm.kept hst ?_, v', v2, hq', ((h2.below hb).kept hst ?_ ?_ ?_ ?_).mono (by omega), ?_, ?_, (h5.kept (S := fun _ => False) (.of_below hb) (fun e => e)).kept hst ?_, (h6.trans (hb.mono h6.size)).trans (hst.below ?_ (Nat.le_trans h6.size hs2)), h7, h8⟩
  · intro e
    rcases e with e | e | e
    · omega
    · omega
    · have := (h3 _ e).2.1; omega
  · intro e
    rcases e with e | e | e
    · omega
    · omega
    · have := (h3 _ e).1; omega
  · intro e
    rcases e with e | e | e
    · omega
    · omega
    · have := (h3 _ e).1; omega
  · intro e
    rcases e with e | e | e
    · omega
    · omega
    · have := (h3 _ e).1; omega
  · intro k hk e
    rcases e with e | e | e
    · have := (h4 k hk).1; omega
    · have := (h4 k hk).1; omega
    · exact (h3 k e).2.2 hk
  · intro g hg
    have hbo : Bo < wr.heap.size := h5.lt
    have hgl : g < w'.heap.size := by
      obtain ⟨l, hl', _⟩ := hq'.t
      exact (hl'.own.lt g hg).2
    rcases hrf g hg with e | e
    · exact ⟨(h3 g e).1, hgl, (h3 g e).2.2⟩
    · exact ⟨by omega, hgl, fun e2 => by have := (h4 g e2).2; omega⟩
  · intro g hg
    exact ⟨(h4 g hg).1, by have := (h4 g hg).2; omega⟩
  · intro e
    rcases e with e | e | e
    · omega
    · omega
    · have := (h3 _ e).1; omega
  · intro k hk e
    rcases e with e | e | e
    · omega
    · omega
    · have := (h3 _ e).1; omega
/-- A push into the second. -/
theorem Duo.pushP {w wr : World} {Bp Bo n : Nat} {A P : List M} {o m : M} (h : Duo w wr Bp Bo n A P o) (hf : m.fits) (hn : hasS P m.k.f m.u = false) (hl : P.length < 16384) (hl2 : n < maxLen) :
    Calls Try.prog 15 #[.pointer (some ⟨Bp + 2, 0, none⟩), m.val] wr fun e w' => e = .returned (.int .i64 0) ∧ Hid (Duo w w' Bp Bo (n + 1) A (mg ltM P [m]) o) := by
  obtain ⟨v, v2, h1, h2, h3, h4, h5, h6, h7, h8⟩ := h
  refine (hPush_takes h2 m hf hn hl hl2).mono ?_
  rintro e w' ⟨he, v', hq', hst, hrf⟩
  have hsz := hst.size
  refine ⟨he, v, v', (h1.kept hst ?_ ?_ ?_ ?_).mono (by omega), hq', ?_, ?_, h5.kept hst ?_, h6.trans (hst.below ?_ h6.size), h7, h8⟩
  · intro e
    rcases e with e | e | e
    · omega
    · omega
    · have := (h4 _ e).1; omega
  · intro e
    rcases e with e | e | e
    · omega
    · omega
    · have := (h4 _ e).1; omega
  · intro e
    rcases e with e | e | e
    · omega
    · omega
    · have := (h4 _ e).1; omega
  · intro k hk e
    rcases e with e | e | e
    · have := (h3 k hk).1; omega
    · have := (h3 k hk).1; omega
    · exact (h3 k hk).2.2 e
  · intro g hg
    refine ⟨(h3 g hg).1, by have := (h3 g hg).2.1; omega, fun e2 => ?_⟩
    rcases hrf g e2 with e | e
    · exact (h3 g hg).2.2 e
    · have := (h3 g hg).2.1; omega
  · intro g hg
    have hbo : Bo < wr.heap.size := h5.lt
    have hgl : g < w'.heap.size := by
      obtain ⟨l, hl', _⟩ := hq'.t
      exact (hl'.own.lt g hg).2
    rcases hrf g hg with e | e
    · exact ⟨(h4 g e).1, hgl⟩
    · exact ⟨by omega, hgl⟩
  · intro e
    rcases e with e | e | e
    · omega
    · omega
    · have := (h4 _ e).1; omega
  · intro k hk e
    rcases e with e | e | e
    · omega
    · omega
    · have := (h4 _ e).1; omega
/-- A cut of what is there out of the first. -/
theorem Duo.cutQ {w wr : World} {Bp Bo n : Nat} {A P : List M} {o a : M} (h : Duo w wr Bp Bo n A P o) (ha : a ∈ A) (hf : a.fits) (hAP : ∀ i (hi : i < A.length), A[i] = a → A.eraseIdx i = P) :
    Calls Try.prog 18 #[.pointer (some ⟨w.heap.size + 2, 0, none⟩), .int .i64 a.k.f, .int .i64 a.u] wr fun e w' => e = .returned (.tuple #[a.val, .int .i64 0]) ∧ Hid (Duo w w' Bp Bo n P P o) := by
  obtain ⟨v, v2, h1, h2, h3, h4, h5, h6, h7, h8⟩ := h
  refine (hCut_some h1 hf.1.2.1 hf.2.2.2 (hasS_self ha)).mono ?_
  rintro e w' ⟨m, he, i, hi, e1, e2, e3, v', hq', hst, hrf⟩
  have ea : A[i] = a := unlike_eq h1.u ha hi (by rw [e1]; exact e2) (by rw [e1]; exact e3)
  obtain rfl : m = a := e1.symm.trans ea
  rw [hAP i hi ea] at hq'
  have hsz := hst.size
  refine ⟨he, v', v2, hq', h2.kept hst ?_ ?_ ?_ ?_, ?_, ?_, h5.kept hst ?_, h6.trans (hst.below ?_ h6.size), h7, h8⟩
  · intro e
    rcases e with e | e | e
    · omega
    · omega
    · have := (h3 _ e).1; omega
  · intro e
    rcases e with e | e | e
    · omega
    · omega
    · have := (h3 _ e).1; omega
  · intro e
    rcases e with e | e | e
    · omega
    · omega
    · have := (h3 _ e).1; omega
  · intro k hk e
    rcases e with e | e | e
    · have := (h4 k hk).1; omega
    · have := (h4 k hk).1; omega
    · exact (h3 k e).2.2 hk
  · intro g hg
    have hbo : Bo < wr.heap.size := h5.lt
    have hgl : g < w'.heap.size := by
      obtain ⟨l, hl', _⟩ := hq'.t
      exact (hl'.own.lt g hg).2
    rcases hrf g hg with e | e
    · exact ⟨(h3 g e).1, hgl, (h3 g e).2.2⟩
    · exact ⟨by omega, hgl, fun e2 => by have := (h4 g e2).2; omega⟩
  · intro g hg
    exact ⟨(h4 g hg).1, by have := (h4 g hg).2; omega⟩
  · intro e
    rcases e with e | e | e
    · omega
    · omega
    · have := (h3 _ e).1; omega
  · intro k hk e
    rcases e with e | e | e
    · omega
    · omega
    · have := (h3 _ e).1; omega

/-- The messages without the one at k. -/
def outU (ms : List M) (k i : Nat) : List M := (inU ms i).filter fun m => !decide (m.u = (k : Int))
theorem outU_mem {ms : List M} {k i : Nat} {m : M} (h : m ∈ outU ms k i) : ∃ j, j < i ∧ m = nthU ms j := inU_mem (List.mem_filter.1 h).1
theorem outU_succ (ms : List M) (k i : Nat) : outU ms k (i + 1) = if i = k then outU ms k i else outU ms k i ++ [nthU ms i] := by
  unfold outU
  rw [inU_succ, List.filter_append]
  by_cases h : i = k
  · subst h
    simp [nthU]
  · have : ¬ ((i : Int) = (k : Int)) := by omega
    simp [nthU, this, h]
theorem outU_new (ms : List M) (k i : Nat) (f : Int) : hasS (stab ltM (outU ms k i)) f (i : Int) = false := by
  rw [hasS_perm (stab_perm _)]
  cases h : hasS (outU ms k i) f (i : Int) with
  | false => rfl
  | true =>
    obtain ⟨m, hm, _, hu⟩ := hasS_iff.1 h
    obtain ⟨j, hj, rfl⟩ := outU_mem hm
    simp [nthU] at hu
    omega
theorem outU_length (ms : List M) (k i : Nat) : (outU ms k i).length ≤ i := by
  have := List.length_filter_le (fun m : M => !decide (m.u = (k : Int))) (inU ms i)
  rw [inU_length] at this
  exact this
theorem inU_unlike (ms : List M) : ∀ i, Unlike (inU ms i)
  | 0 => List.Pairwise.nil
  | i + 1 => by
    rw [inU_succ]
    refine unlike_snoc (inU_unlike ms i) ?_
    rw [← hasS_perm (stab_perm _)]
    exact inU_new ms i _
theorem inU_has (ms : List M) {k i : Nat} (h : k < i) : nthU ms k ∈ stab ltM (inU ms i) := (stab_perm _).mem_iff.2 (by simp [inU]; exact ⟨k, h, rfl⟩)
/-- What is left of the queue is the other queue. -/
theorem cut_is_out (ms : List M) {k n : Nat} (hk : k < n) : ∀ i (hi : i < (stab ltM (inU ms n)).length), (stab ltM (inU ms n))[i] = nthU ms k → (stab ltM (inU ms n)).eraseIdx i = stab ltM (outU ms k n) := by
  intro i hi he
  have hU := (inU_unlike ms n).perm (stab_perm (lt := ltM) (inU ms n)).symm
  have hO := stab_inOrder ordM (inU ms n)
  obtain ⟨o1, o2⟩ := erase_keeps i hO hU
  refine sorted_unique ?_ o1 (stab_inOrder ordM _) o2
  refine List.Perm.trans ?_ (stab_perm _).symm
  have hp : (nthU ms k :: (stab ltM (inU ms n)).eraseIdx i).Perm (inU ms n) := by
    have := erase_perm hi
    rw [he] at this
    exact this.trans (stab_perm _)
  have hq : (nthU ms k :: outU ms k n).Perm (inU ms n) := by
    clear hp hi he o1 o2 hO hU
    induction n with
    | zero => omega
    | succ n ih =>
      rw [outU_succ, inU_succ]
      by_cases e : n = k
      · subst e
        rw [if_pos rfl]
        have : outU ms n n = inU ms n := by
          unfold outU
          refine List.filter_eq_self.2 fun m hm => ?_
          obtain ⟨j, hj, rfl⟩ := inU_mem hm
          simp [nthU]
          omega
        rw [this]
        exact List.perm_append_comm (l₁ := [nthU ms n])
      · rw [if_neg e, ← List.cons_append]
        exact (ih (by omega)).append_right _
  exact List.Perm.cons_inv (hp.trans hq.symm)
end Go.Proofs.Ytbalbachmeiehaa
