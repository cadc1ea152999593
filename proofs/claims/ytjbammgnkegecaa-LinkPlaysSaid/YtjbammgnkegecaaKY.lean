/-
  The program's way and the document's in one world.
-/
import Derived.Test.YtjbammgnkegecaaKX
namespace Go.Proofs.Ytjbammgnkegecaa
open Go.ChangeShapes Go.WideShapes Go.ChangeAt Go.Shelf Go.RowKit Go.Lib Go.Sort Go.Deep
set_option linter.unusedVariables false
set_option maxRecDepth 4000

/-- The program's way has the parcels of P, the document's those of D; the blocks of X are another's. -/
structure MixS (w wr : World) (hb rb : Nat) (X SP SD : Nat → Prop) (y : Wy) (P D : List Pc) : Prop where
  p : Fresh w wr hb SP y P
  d : DyAt wr rb SD y D
  nd : ∀ k, SD k → w.heap.size ≤ k
  off : ∀ k, SP k → ¬ SD k
  xo : ∀ k, X k → k < wr.heap.size ∧ ¬ SP k ∧ ¬ SD k
def Mix (w wr : World) (hb rb : Nat) (X : Nat → Prop) (y : Wy) (P D : List Pc) : Prop := ∃ SP SD, MixS w wr hb rb X SP SD y P D
/-- What another has stays. -/
def Stay (X : Nat → Prop) (wr w' : World) : Prop := ∀ k, X k → w'.heap[k]? = wr.heap[k]?
section
variable {w wr w' : World} {hb rb : Nat} {X X' SP SD : Nat → Prop} {y : Wy} {P D P' D' : List Pc}
theorem Fresh.keptX {L : List Pc} {S : Nat → Prop} (h : Fresh w wr hb S y L) (hk : KeptOff X wr w') (hn : ∀ k, S k → ¬ X k) (hX : ∀ k, X k → w.heap.size ≤ k) : Fresh w w' hb S y L :=
  ⟨h.at'.kept hk hn, h.b.trans (hk.below (fun k _ e => hX k e) h.b.size), h.new⟩
theorem Mix.b (h : Mix w wr hb rb X y P D) : Below w.heap.size w wr := by obtain ⟨SP, SD, h⟩ := h; exact h.p.b
theorem Mix.below (h : Mix w wr hb rb X y P D) (hb' : Below wr.heap.size wr w') : Mix w w' hb rb X y P D := by
  obtain ⟨SP, SD, h⟩ := h
  exact ⟨SP, SD, h.p.below hb', h.d.below hb', h.nd, h.off, fun k e => ⟨Nat.lt_of_lt_of_le (h.xo k e).1 hb'.size, (h.xo k e).2⟩⟩
theorem Mix.stay (h : Mix w wr hb rb X y P D) (hb' : Below wr.heap.size wr w') : Stay X wr w' := by
  obtain ⟨SP, SD, h⟩ := h
  exact fun k e => hb'.block k (h.xo k e).1
/-- New blocks are another's, too. -/
theorem Mix.others (h : Mix w wr hb rb X y P D) (hb' : Below wr.heap.size wr w') (hX : ∀ k, X' k → X k ∨ (wr.heap.size ≤ k ∧ k < w'.heap.size)) : Mix w w' hb rb X' y P D := by
  obtain ⟨SP, SD, h⟩ := h
  refine ⟨SP, SD, h.p.below hb', h.d.below hb', h.nd, h.off, fun k e => ?_⟩
  rcases hX k e with e | ⟨e1, e2⟩
  · exact ⟨Nat.lt_of_lt_of_le (h.xo k e).1 hb'.size, (h.xo k e).2⟩
  · exact ⟨e2, fun e => by have := h.p.at'.lt e; omega, fun e => by have := h.d.lt e; omega⟩
theorem MixS.stepP {SP' : Nat → Prop} (h : MixS w wr hb rb X SP SD y P D) (h2 : Fresh w w' hb SP' y P') (hc : CStep wr w' SP SP') : Mix w w' hb rb X y P' D ∧ Stay X wr w' := by
  refine ⟨⟨SP', SD, h2, h.d.kept hc.1 (fun k e e2 => h.off k e2 e), h.nd, fun k e e2 => ?_, fun k e => ⟨Nat.lt_of_lt_of_le (h.xo k e).1 hc.1.size, fun e2 => ?_, (h.xo k e).2.2⟩⟩, fun k e => hc.1.block k (h.xo k e).1 (h.xo k e).2.1⟩
  · rcases hc.2 k e with e3 | e3
    · exact h.off k e3 e2
    · have := h.d.lt e2; omega
  · rcases hc.2 k e2 with e3 | e3
    · exact (h.xo k e).2.1 e3
    · have := (h.xo k e).1; omega
theorem MixS.stepD {SD' : Nat → Prop} (h : MixS w wr hb rb X SP SD y P D) (h2 : DyAt w' rb SD' y D') (hc : CStep wr w' SD SD') : Mix w w' hb rb X y P D' ∧ Stay X wr w' := by
  refine ⟨⟨SP, SD', h.p.keptX hc.1 (fun k e e2 => h.off k e e2) (fun k e => h.nd k e), h2, fun k e => ?_, fun k e e2 => ?_, fun k e => ⟨Nat.lt_of_lt_of_le (h.xo k e).1 hc.1.size, (h.xo k e).2.1, fun e2 => ?_⟩⟩, fun k e => hc.1.block k (h.xo k e).1 (h.xo k e).2.2⟩
  · exact (hc.2 k e).elim (h.nd k) (fun e => Nat.le_trans h.p.b.size e)
  · rcases hc.2 k e2 with e3 | e3
    · exact h.off k e e3
    · have := h.p.at'.lt e; omega
  · rcases hc.2 k e2 with e3 | e3
    · exact (h.xo k e).2.2 e3
    · have := (h.xo k e).1; omega
theorem Mix.putP (h : Mix w wr hb rb X y P D) (p : Pc) (hl : (P.length + 1) * 64 ≤ 140737488355328) : Calls Try.prog 11 #[.pointer (some ⟨hb, 0, none⟩), p.val] wr fun e w' => e = .returned (.int .i64 (putC y P.length p)) ∧ Hid (Mix w w' hb rb X y (putL y P p) D ∧ Stay X wr w') := by
  obtain ⟨SP, SD, h⟩ := h
  refine (h.p.put p hl).mono ?_
  rintro e w' ⟨he, h2⟩
  obtain ⟨S', h3, h4⟩ := h2.out
  exact ⟨he, h.stepP h3 h4⟩
theorem Mix.putD (h : Mix w wr hb rb X y P D) (p : Pc) (hl : (D.length + 1) * 64 ≤ 140737488355328) : Calls Try.prog 12 #[.pointer (some ⟨rb, 0, none⟩), p.val] wr fun e w' => e = .returned (.int .i64 (putC y D.length p)) ∧ Hid (Mix w w' hb rb X y P (putL y D p) ∧ Stay X wr w') := by
  obtain ⟨SP, SD, h⟩ := h
  refine (rlPut_any h.d p hl).mono ?_
  rintro e w' ⟨he, h2⟩
  obtain ⟨S', h3, h4⟩ := h2.out
  exact ⟨he, h.stepD h3 h4⟩
theorem Mix.peekP (h : Mix w wr hb rb X y P D) (n : Int) (hl : P.length < 1000000000000000) : Calls Try.prog 13 #[.pointer (some ⟨hb, 0, none⟩), .int .i64 n] wr fun e w' => e = .returned (.tuple #[(peekP y P n).val, .int .i64 (peekC P)]) ∧ Hid (Mix w w' hb rb X y P D ∧ Stay X wr w') := by
  obtain ⟨SP, SD, h1⟩ := h
  exact (peek_any h1.p.at' n hl).mono fun e w' hh => ⟨hh.1, Mix.below ⟨SP, SD, h1⟩ hh.2, Mix.stay ⟨SP, SD, h1⟩ hh.2⟩
theorem Mix.peekD (h : Mix w wr hb rb X y P D) (n : Int) (hl : D.length < 1000000000000000) : Calls Try.prog 14 #[.pointer (some ⟨rb, 0, none⟩), .int .i64 n] wr fun e w' => e = .returned (.tuple #[(Go.Proofs.Ytjbammgnkegecaa.peekP y D n).val, .int .i64 (peekC D)]) ∧ Hid (Mix w w' hb rb X y P D ∧ Stay X wr w') := by
  obtain ⟨SP, SD, h1⟩ := h
  exact (rlPeek_any h1.d n hl).mono fun e w' hh => ⟨hh.1, Mix.below ⟨SP, SD, h1⟩ hh.2, Mix.stay ⟨SP, SD, h1⟩ hh.2⟩
theorem Mix.takeP (h : Mix w wr hb rb X y P D) (n : Int) (hl : P.length < 1000000000000000) : Calls Try.prog 15 #[.pointer (some ⟨hb, 0, none⟩), .int .i64 n] wr fun e w' => e = .returned (.tuple #[(Go.Proofs.Ytjbammgnkegecaa.peekP y P n).val, .int .i64 (peekC P)]) ∧ Hid (Mix w w' hb rb X y (takeL y P n) D ∧ Stay X wr w') := by
  obtain ⟨SP, SD, h⟩ := h
  exact (h.p.take n hl).mono fun e w' hh => ⟨hh.1, h.stepP hh.2.out.1 ⟨hh.2.out.2, fun k e => .inl e⟩⟩
theorem Mix.takeD (h : Mix w wr hb rb X y P D) (n : Int) (hl : D.length * 64 ≤ 140737488355328) : Calls Try.prog 16 #[.pointer (some ⟨rb, 0, none⟩), .int .i64 n] wr fun e w' => e = .returned (.tuple #[(Go.Proofs.Ytjbammgnkegecaa.peekP y D n).val, .int .i64 (peekC D)]) ∧ Hid (Mix w w' hb rb X y P (takeL y D n) ∧ Stay X wr w') := by
  obtain ⟨SP, SD, h⟩ := h
  refine (rlTake_any h.d n hl).mono ?_
  rintro e w' ⟨he, h2⟩
  obtain ⟨S', h3, h4⟩ := h2.out
  exact ⟨he, h.stepD h3 h4⟩
end
theorem putL_len (y : Wy) (L : List Pc) (p : Pc) : (putL y L p).length ≤ L.length + 1 := by
  unfold putL
  split
  · simp
  · omega
theorem takeL_len (y : Wy) (L : List Pc) (n : Int) : (takeL y L n).length ≤ L.length := by
  unfold takeL
  exact (List.eraseIdx_sublist L _).length_le
/-- What is looked at behind a call. -/
theorem Mix.looks {w wr : World} {hb rb : Nat} {X : Nat → Prop} {y : Wy} {L : List Pc} (h : Mix w wr hb rb X y L L) (hl : L.length * 64 ≤ 140737488351232) : ∃ (va : Option Addr) (vc : Nat), ∀ w', Below wr.heap.size wr w' →
    w'.cell? ⟨rb, 5, none⟩ = some (.slice va L.length vc) ∧ AtP w' (.slice va L.length vc) L ∧
    (Calls Try.prog 17 #[.pointer (some ⟨hb, 0, none⟩)] w' fun e w'' => e = .returned (.int .i64 (roomN y L.length)) ∧ Below w'.heap.size w' w'') ∧
    (Calls Try.prog 18 #[.pointer (some ⟨rb, 0, none⟩)] w' fun e w'' => e = .returned (.int .i64 (roomN y L.length)) ∧ Below w'.heap.size w' w'') ∧
    (Calls Try.prog 19 #[.pointer (some ⟨hb, 0, none⟩)] w' fun e w'' => e = .returned (.int .i64 (leastT L)) ∧ Below w'.heap.size w' w'') ∧
    (Calls Try.prog 20 #[.pointer (some ⟨rb, 0, none⟩)] w' fun e w'' => e = .returned (.int .i64 (leastT L)) ∧ w' = w'') ∧
    (Calls Try.prog 21 #[.pointer (some ⟨hb, 0, none⟩)] w' fun e w'' => e = .returned (.int .i64 L.length) ∧ w' = w'') ∧
    (Calls Try.prog 23 #[.pointer (some ⟨hb, 0, none⟩)] w' fun e w'' => ∃ a' c', e = .returned (.slice a' L.length c') ∧ Hid (AtP w'' (.slice a' L.length c') L ∧ Below w'.heap.size w' w'')) := by
  obtain ⟨SP, SD, h⟩ := h
  obtain ⟨lk, v, hd⟩ := h.d
  obtain ⟨va, vc, rfl, -⟩ := hd.shape
  refine ⟨va, vc, fun w' hb' => ?_⟩
  have hd2 := hd.below hb'
  have hp2 := (h.p.below hb').at'
  have hD : DyAt w' rb SD y L := ⟨lk, _, hd2⟩
  exact ⟨hd2.c5, hd2.list, lkRoom_any hp2 (by omega), rlRoom_any hD (by omega), lkLeast_any hp2 (by omega), rlLeast_any hD (by omega), lkLen_any hp2, lkAll_any hp2 (by omega)⟩

/-- A box that holds a call. -/
def opCs (what n : Int) (p : Pc) : List Value := [.int .i64 what, .int .i64 n, .int .i64 p.m.k.t, .int .i64 p.m.k.f, .int .i64 p.m.k.s, .int .i64 p.m.to, .int .i64 p.m.v, .int .i64 p.m.u, .bool p.m.anti, .int .i64 p.c]
def BoxO (w : World) (B : Nat) (what n : Int) (p : Pc) : Prop := w.heap[B]? = some (.cells (opCs what n p).toArray 39 (0, 0))
theorem BoxO.range {w : World} {B : Nat} {what n : Int} {p : Pc} (h : BoxO w B what n p) : w.rangeAt B 2 (encP p) := fun j u hj => by
  have hl : j < 8 := by have := (List.getElem?_eq_some_iff.1 hj).1; rwa [encP_length] at this
  refine cell_of_block (o := 2 + j) h ?_
  rcases (by omega : j = 0 ∨ j = 1 ∨ j = 2 ∨ j = 3 ∨ j = 4 ∨ j = 5 ∨ j = 6 ∨ j = 7) with rfl | rfl | rfl | rfl | rfl | rfl | rfl | rfl <;> exact hj
theorem BoxO.c0 {w : World} {B : Nat} {what n : Int} {p : Pc} (h : BoxO w B what n p) : w.cell? ⟨B, 0, none⟩ = some (.int .i64 what) := cell_of_block (o := 0) h rfl
theorem BoxO.c1 {w : World} {B : Nat} {what n : Int} {p : Pc} (h : BoxO w B what n p) : w.cell? ⟨B, 1, none⟩ = some (.int .i64 n) := cell_of_block (o := 1) h rfl
end Go.Proofs.Ytjbammgnkegecaa
