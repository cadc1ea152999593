
/-
  A way's calls at any way; a way of the call's own; awake.
-/
import Derived.Test.YtjbammgnkegecaaKK
import Derived.Test.YtjbammgnkegecaaKO
namespace Go.Proofs.Ytjbammgnkegecaa
open Go.ChangeShapes Go.WideShapes Go.ChangeAt Go.Shelf Go.RowKit Go.Lib Go.Sort Go.Deep
set_option linter.unusedVariables false
set_option maxRecDepth 4000

section
variable {w : World} {hb : Nat} {S : Nat → Prop} {y : Wy} {L : List Pc}
theorem put_any (h : WyAt w hb S y L) (p : Pc) (hl : (L.length + 1) * 64 ≤ 140737488355328) : Calls Try.prog 11 #[.pointer (some ⟨hb, 0, none⟩), p.val] w fun e w' => e = .returned (.int .i64 (putC y L.length p)) ∧ Hid (∃ S', WyAt w' hb S' y (putL y L p) ∧ CStep w w' S S') := by
  by_cases hc : putC y L.length p = 0
  · refine (put_yes h p hl hc).mono ?_
    rintro e w' ⟨he, h2⟩
    refine ⟨by rw [he, hc], ?_⟩
    unfold putL
    rw [if_pos hc]
    exact h2
  · refine (put_no h p (by omega) hc).mono ?_
    rintro e w' ⟨he, h2⟩
    refine ⟨he, S, ?_, CStep.of_below h2⟩
    unfold putL
    rw [if_neg hc]
    exact h.below h2
theorem peek_any (h : WyAt w hb S y L) (n : Int) (hl : L.length < 1000000000000000) : Calls Try.prog 13 #[.pointer (some ⟨hb, 0, none⟩), .int .i64 n] w fun e w' => e = .returned (.tuple #[(peekP y L n).val, .int .i64 (peekC L)]) ∧ Below w.heap.size w w' := by
  obtain ⟨v, h⟩ := h
  cases L with
  | nil => exact peek_none h n
  | cons p L =>
    have := peek_some h n hl (by simp)
    unfold peekP peekC
    rw [if_neg (by simp), if_neg (by simp)]
    exact this
theorem take_any (h : WyAt w hb S y L) (n : Int) (hl : L.length < 1000000000000000) : Calls Try.prog 15 #[.pointer (some ⟨hb, 0, none⟩), .int .i64 n] w fun e w' => e = .returned (.tuple #[(peekP y L n).val, .int .i64 (peekC L)]) ∧ Hid (WyAt w' hb S y (takeL y L n) ∧ KeptOff S w w') := by
  obtain ⟨v, h⟩ := h
  cases L with
  | nil => exact (take_none h n).mono fun e w' hh => ⟨hh.1, ⟨v, h.below hh.2⟩, KeptOff.of_below hh.2⟩
  | cons p L =>
    have := take_some h n hl (by simp)
    unfold peekP peekC takeL
    rw [if_neg (by simp), if_neg (by simp)]
    exact this
theorem lkLen_any (h : WyAt w hb S y L) : Calls Try.prog 21 #[.pointer (some ⟨hb, 0, none⟩)] w fun e w' => e = .returned (.int .i64 L.length) ∧ w = w' := by obtain ⟨v, h⟩ := h; exact lkLen_of h
theorem lkRoom_any (h : WyAt w hb S y L) (hl : L.length < 1000000000000000) : Calls Try.prog 17 #[.pointer (some ⟨hb, 0, none⟩)] w fun e w' => e = .returned (.int .i64 (roomN y L.length)) ∧ Below w.heap.size w w' := by obtain ⟨v, h⟩ := h; exact lkRoom_of h hl
theorem lkLeast_any (h : WyAt w hb S y L) (hl : L.length < 1000000000000000) : Calls Try.prog 19 #[.pointer (some ⟨hb, 0, none⟩)] w fun e w' => e = .returned (.int .i64 (leastT L)) ∧ Below w.heap.size w w' := by obtain ⟨v, h⟩ := h; exact lkLeast_of h hl
theorem lkAll_any (h : WyAt w hb S y L) (hs : L.length * 64 ≤ 140737488355328) : Calls Try.prog 23 #[.pointer (some ⟨hb, 0, none⟩)] w fun e w' => ∃ a' c', e = .returned (.slice a' L.length c') ∧ Hid (AtP w' (.slice a' L.length c') L ∧ Below w.heap.size w w') := by obtain ⟨v, h⟩ := h; exact lkAll_of h hs
end
/-- A way that the call made itself. -/
structure Fresh (w wr : World) (hb : Nat) (S : Nat → Prop) (y : Wy) (L : List Pc) : Prop where
  at' : WyAt wr hb S y L
  b : Below w.heap.size w wr
  new : ∀ k, S k → w.heap.size ≤ k
section
variable {w wr w' : World} {hb : Nat} {S S' : Nat → Prop} {y : Wy} {L L' : List Pc}
theorem Fresh.mk' (h : Made w y hb wr) : Fresh w wr hb (fun k => k = hb) y [] := ⟨h.2.1, h.2.2, fun k e => by subst e; exact h.1⟩
theorem Fresh.below (h : Fresh w wr hb S y L) (hb' : Below wr.heap.size wr w') : Fresh w w' hb S y L := ⟨h.at'.below hb', h.b.trans (hb'.mono h.b.size), h.new⟩
theorem Fresh.step (h : Fresh w wr hb S y L) (h2 : WyAt w' hb S' y L') (hc : CStep wr w' S S') : Fresh w w' hb S' y L' :=
  ⟨h2, h.b.trans (hc.1.below (fun k _ e => h.new k e) h.b.size), fun k e => (hc.2 k e).elim (h.new k) (fun e => Nat.le_trans h.b.size e)⟩
theorem Fresh.put (h : Fresh w wr hb S y L) (p : Pc) (hl : (L.length + 1) * 64 ≤ 140737488355328) : Calls Try.prog 11 #[.pointer (some ⟨hb, 0, none⟩), p.val] wr fun e w' => e = .returned (.int .i64 (putC y L.length p)) ∧ Hid (∃ S', Fresh w w' hb S' y (putL y L p) ∧ CStep wr w' S S') :=
  (put_any h.at' p hl).mono fun e w' hh => ⟨hh.1, by
    obtain ⟨S', h1, h2⟩ := hh.2.out
    exact ⟨S', h.step h1 h2, h2⟩⟩
theorem Fresh.take (h : Fresh w wr hb S y L) (n : Int) (hl : L.length < 1000000000000000) : Calls Try.prog 15 #[.pointer (some ⟨hb, 0, none⟩), .int .i64 n] wr fun e w' => e = .returned (.tuple #[(peekP y L n).val, .int .i64 (peekC L)]) ∧ Hid (Fresh w w' hb S y (takeL y L n) ∧ KeptOff S wr w') :=
  (take_any h.at' n hl).mono fun e w' hh => ⟨hh.1, h.step hh.2.out.1 ⟨hh.2.out.2, fun k e => .inl e⟩, hh.2.out.2⟩
end
set_option maxHeartbeats 1000000 in
theorem awake_any11 (w : World) : Calls Try.prog 24 #[] w fun e w' => e = .returned (.bool true) ∧ Below w.heap.size w w' := by
  have hn := fun w => lkNew_yes (f := 0) (t := 1) (k := 0) (b := false) (most := 3) ⟨by omega, by omega, by omega⟩ w
  unfold lkV at hn
  have hst : Hid (∀ hb w1, Hid (Made w ⟨0, 1, 3, false⟩ hb w1) → Calls Try.prog 17 #[.pointer (some ⟨hb, 0, none⟩)] w1 fun e w2 => e = .returned (.int .i64 3) ∧ Below w.heap.size w w2) := Lib.hid (fun hb w1 h => (lkRoom_any h.out.2.1 (by simp)).mono fun e w2 hh => ⟨hh.1, h.out.2.2.trans (hh.2.mono h.out.2.2.size)⟩)
  go_enter Try.func24, Try.ntmps24
  go_wp2_with (first
    | (go_at_call 9; refine (hn w).mono ?_; rintro e w1 ⟨hb, rfl, hM⟩; have hr := hst.out hb w1 hM)
    | (go_at_call 17; refine hr.mono ?_; rintro e w2 ⟨rfl, hb2⟩; have hb2' := Lib.hid hb2; clear hb2))
  go_ret
  exact ⟨rfl, hb2'.out⟩
end Go.Proofs.Ytjbammgnkegecaa
