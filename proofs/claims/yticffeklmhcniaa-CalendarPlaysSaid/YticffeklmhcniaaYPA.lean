
/-
  The document's own calendar: find, New, First, Pop.
-/
import Derived.Test.YticffeklmhcniaaYX
import Derived.Test.YticffeklmhcniaaSorts
namespace Go.Proofs.Yticffeklmhcniaa
open Go.ChangeShapes Go.WideShapes Go.ChangeAt Go.Shelf Go.RowKit Go.Lib Go.Sort Go.Deep Go.Maps
set_option linter.unusedVariables false

theorem cell_of_block {W : World} {b o : Nat} {cs : Array Value} {t : TypeId} {u : Value} (h : W.heap[b]? = some (.cells cs t)) (hu : cs[o]? = some u) : W.cell? ⟨b, o, none⟩ = some u := by simp [World.cell?, h, hu]
theorem frozen_of_block {W : World} {b o : Nat} {cs : Array Value} {t : TypeId} (h : W.heap[b]? = some (.cells cs t)) : W.frozen? ⟨b, o, none⟩ = false := by simp [World.frozen?, h]
/-- The document's queue holds the messages of L. -/
def DocAt (w : World) (rb : Nat) (a : Option Addr) (cap : Nat) (L : List M) : Prop := w.heap[rb]? = some (.cells #[.slice a L.length cap] 40) ∧ Msgs w a L.length cap L
theorem DocAt.c0 {w : World} {rb cap : Nat} {a : Option Addr} {L : List M} (h : DocAt w rb a cap L) : w.cell? ⟨rb, 0, none⟩ = some (.slice a L.length cap) := cell_of_block (o := 0) h.1 rfl
theorem DocAt.lt {w : World} {rb cap : Nat} {a : Option Addr} {L : List M} (h : DocAt w rb a cap L) : rb < w.heap.size := (Array.getElem?_eq_some_iff.1 h.1).1
theorem DocAt.below {w w' : World} {rb cap : Nat} {a : Option Addr} {L : List M} (h : DocAt w rb a cap L) (hb : Below w.heap.size w w') : DocAt w' rb a cap L :=
  ⟨(hb.block _ h.lt).trans h.1, h.2.below hb⟩
/-- What find answers. -/
def FoundAt (L : List M) (f u i : Int) : Prop := (i = -1 ∧ hasS L f u = false) ∨ ∃ (k : Nat) (hk : k < L.length), i = (k : Int) ∧ L[k].k.f = f ∧ L[k].u = u
theorem not_has {L : List M} {f u : Int} (h : ∀ j, j < L.length → ¬ ((L.getD j default).k.f = f ∧ (L.getD j default).u = u)) : hasS L f u = false := by
  cases e : hasS L f u with
  | false => rfl
  | true =>
    obtain ⟨m, hm, h1, h2⟩ := hasS_iff.1 e
    obtain ⟨j, hj, rfl⟩ := List.getElem_of_mem hm
    refine absurd ⟨?_, ?_⟩ (h j hj)
    · simpa [List.getD_eq_getElem?_getD, hj] using h1
    · simpa [List.getD_eq_getElem?_getD, hj] using h2

set_option maxHeartbeats 2000000 in
theorem rfind_any {w : World} {rb cap : Nat} {a : Option Addr} {L : List M} (h : DocAt w rb a cap L) (f u : Int) :
    Calls Try.prog 36 #[.pointer (some ⟨rb, 0, none⟩), .int .i64 f, .int .i64 u] w fun e w' => (∃ i, e = .returned (.int .i64 i) ∧ FoundAt L f u i) ∧ w = w' := by
  have c0 := h.c0
  have hM := Lib.hid h.2
  have hmx : L.length ≤ 9223372036854775807 ∧ L.length ≤ cap := by have h1 := h.2.2.1; have h2 := h.2.2.2.1; unfold maxLen at h2; omega
  obtain ⟨hmx, hcap⟩ := hmx
  clear h
  obtain ⟨N, hN⟩ : ∃ N, N = L.length := ⟨_, rfl⟩
  rw [← hN] at c0 hmx hcap
  have hN' := Lib.hid hN
  clear hN
  go_enter Try.func36, Try.ntmps36
  go_wp2
  go_loopw [7] (fun s7 wr => ∃ k : Nat, k ≤ N ∧ s7 = .int .i64 k ∧ Hid (∀ j, j < k → ¬ ((L.getD j default).k.f = f ∧ (L.getD j default).u = u)) ∧ w = wr) (fun s7 _ => N - (intOf s7).toNat)
  case atStart => exact ⟨0, Nat.zero_le _, rfl, fun j hj => absurd hj (Nat.not_lt_zero j), rfl⟩
  case round =>
    obtain ⟨k, hk, rfl, hno, rfl⟩ := hrel
    by_cases hkl : k < N
    · have hz : (k : Int) < (N : Int) := by omega
      obtain ⟨b, off, rfl, hma⟩ : ∃ b off, a = some ⟨b, off, none⟩ ∧ ∀ i, i < L.length → MsgAt w b (off + i * 7) (L.getD i default) := by
        rcases hM.out.2.2.2.2 with h0 | hx
        · have := hN'.out
          omega
        · exact hx
      have hmk := hma k (by rw [← hN'.out]; exact hkl)
      have hnk := fun (hn : ¬ ((L.getD k default).k.f = f ∧ (L.getD k default).u = u)) => (show Hid (∀ j, j < k + 1 → ¬ ((L.getD j default).k.f = f ∧ (L.getD j default).u = u)) from fun j hj => by
        by_cases e : j = k
        · subst e; exact hn
        · exact hno.out j (by omega))
      have hyk := fun (hy : (L.getD k default).k.f = f ∧ (L.getD k default).u = u) => (show Hid (FoundAt L f u (k : Int)) from .inr ⟨k, by rw [← hN'.out]; exact hkl, rfl, by
        have e : L[k]'(by rw [← hN'.out]; exact hkl) = L.getD k default := by simp [List.getD_eq_getElem?_getD, show k < L.length by rw [← hN'.out]; exact hkl]
        rw [e]; exact hy⟩)
      have hnk' := Lib.hid hnk
      have hyk' := Lib.hid hyk
      clear hma hnk hyk
      generalize L.getD k default = m at hmk hnk' hyk'
      obtain ⟨-, -, x1, -, -, -, x5, -⟩ := hmk
      by_cases h1 : m.k.f = f
      · by_cases h2 : m.u = u
        · have hfin := Lib.hid (hyk'.out ⟨h1, h2⟩).out
          go_wp2
          go_ret
          exact ⟨⟨_, rfl, hfin.out⟩, rfl⟩
        · have hfin := Lib.hid (hnk'.out (fun h => h2 h.2)).out
          go_wp2
          go_roundw
          case rel => exact ⟨k + 1, by omega, by go_num, hfin, trivial⟩
          case measure => simp [intOf]; omega
      · have hfin := Lib.hid (hnk'.out (fun h => h1 h.1)).out
        go_wp2
        go_roundw
        case rel => exact ⟨k + 1, by omega, by go_num, hfin, trivial⟩
        case measure => simp [intOf]; omega
    · obtain rfl : k = N := by omega
      have hz : ¬ (k : Int) < (k : Int) := by omega
      have hfin : Hid (FoundAt L f u (-1)) := .inl ⟨rfl, not_has (by rw [← hN'.out]; exact hno.out)⟩
      go_wp2
      go_ret
      exact ⟨⟨_, rfl, hfin.out⟩, rfl⟩
theorem rNew_any (w : World) {W : Int} (hW : 1 ≤ W) : Calls Try.prog 9 #[.int .i64 W] w fun e w' => e = .returned (.tuple #[.pointer (some ⟨w.heap.size, 0, none⟩), .int .i64 0]) ∧ DocAt w' w.heap.size none 0 [] ∧ Below w.heap.size w w' := by
  have hW1 : ¬ W < 1 := by omega
  go_enter Try.func9, Try.ntmps9
  go_wp2
  go_ret2
  exact ⟨rfl, ⟨heap_alloc_new w _, rfl, by simp, by unfold maxLen; omega, by simp, .inl rfl⟩, (Below.refl _ w).alloc (Nat.le_refl _) _⟩
theorem rNew_no (w : World) {W : Int} (hW : W < 1) : Calls Try.prog 9 #[.int .i64 W] w fun e w' => e = .returned (.tuple #[.pointer none, .int .i64 1]) ∧ w = w' := by
  go_enter Try.func9, Try.ntmps9
  go_wp2
  go_ret2
  exact ⟨rfl, rfl⟩
end Go.Proofs.Yticffeklmhcniaa
