/-
  A queue: what it holds, in order; New, Len, First, Pop.
-/
import Derived.Test.YtbalbachmeiehaaHR
namespace Go.Proofs.Ytbalbachmeiehaa
open Go.ChangeShapes Go.WideShapes Go.ChangeAt Go.Shelf Go.RowKit Go.Lib Go.Sort Go.Deep Go.Maps
set_option linter.unusedVariables false

/-- A queue that holds the messages of T, of unlike sendings, in their order. -/
structure QAt (w : World) (b0 hb tb mb n : Nat) (v : Value) (T : List M) : Prop where
  h : HeapOf w hb tb mb
  t : ∃ l, TreeAt w b0 tb v l ∧ l.Perm T
  s : SendsAt w mb n T
  o : InOrder ltM T
  u : Unlike T
  lh : hb < b0
  lm : mb < b0
  dt : hb ≠ tb ∧ hb ≠ mb ∧ tb ≠ mb
theorem QAt.kept {S : Nat → Prop} {w w' : World} {b0 hb tb mb n : Nat} {v : Value} {T : List M} (h : QAt w b0 hb tb mb n v T) (hk : KeptOff S w w') (h1 : ¬ S hb) (h2 : ¬ S tb) (h3 : ¬ S mb) (h4 : ∀ k, v.ownBlock = some k → ¬ S k) : QAt w' b0 hb tb mb n v T := by
  obtain ⟨l, hl, hp⟩ := h.t
  exact ⟨h.h.kept hk h1, ⟨l, hl.kept hk h2 h4, hp⟩, h.s.kept hk h3, h.o, h.u, h.lh, h.lm, h.dt⟩
theorem QAt.below {w w' : World} {b0 hb tb mb n : Nat} {v : Value} {T : List M} (h : QAt w b0 hb tb mb n v T) (hb' : Below w.heap.size w w') : QAt w' b0 hb tb mb n v T :=
  h.kept (S := fun _ => False) (.of_below hb') (fun e => e) (fun e => e) (fun e => e) (fun _ _ e => e)
theorem QAt.fits {w : World} {b0 hb tb mb n : Nat} {v : Value} {T : List M} (h : QAt w b0 hb tb mb n v T) : ∀ m ∈ T, m.fits := by
  obtain ⟨l, hl, hp⟩ := h.t
  exact fun m hm => hl.fits m (hp.mem_iff.2 hm)
theorem QAt.mono {w : World} {b0 hb tb mb n n' : Nat} {v : Value} {T : List M} (h : QAt w b0 hb tb mb n v T) (hn : n ≤ n') : QAt w b0 hb tb mb n' v T := ⟨h.h, h.t, h.s.mono hn, h.o, h.u, h.lh, h.lm, h.dt⟩
/-- What a step of a queue turns. -/
def QStep (w w' : World) (tb mb : Nat) (v v' : Value) : Prop := KeptOff (fun k => k = tb ∨ k = mb ∨ v.ownBlock = some k) w w' ∧ RowFrom w v v'
theorem QStep.of_below {w w' : World} {tb mb : Nat} {v : Value} (h : Below w.heap.size w w') : QStep w w' tb mb v v := ⟨.of_below h, fun _ h => .inl h⟩

theorem hNew_any (w : World) : Calls Try.prog 8 #[] w fun e w' => e = .returned (.pointer (some ⟨w.heap.size + 2, 0, none⟩)) ∧ QAt w' (w.heap.size + 3) (w.heap.size + 2) w.heap.size (w.heap.size + 1) 0 (.slice none 0 0) [] ∧ Below w.heap.size w w' := by
  have hmm := @run_makeMap Try.prog
  have hW : QAt (((w.alloc (.cells #[.slice none 0 0, .func (.func 20) #[] #[]] 58)).alloc (.map #[] 0)).alloc (.cells #[.pointer (some ⟨w.heap.size, 0, none⟩), .map (some (w.heap.size + 1))] 53)) (w.heap.size + 3) (w.heap.size + 2) w.heap.size (w.heap.size + 1) 0 (.slice none 0 0) [] := by
    have z1 : (w.alloc (.cells #[.slice none 0 0, .func (.func 20) #[] #[]] 58)).heap.size = w.heap.size + 1 := by simp
    have z2 : ((w.alloc (.cells #[.slice none 0 0, .func (.func 20) #[] #[]] 58)).alloc (.map #[] 0)).heap.size = w.heap.size + 2 := by simp
    have t1 : TreeOf (w.alloc (.cells #[.slice none 0 0, .func (.func 20) #[] #[]] 58)) w.heap.size (.slice none 0 0) := heap_alloc_new w _
    have hs := SendsAt.made (w.alloc (.cells #[.slice none 0 0, .func (.func 20) #[] #[]] 58))
    rw [z1] at hs
    have hh := heap_alloc_new ((w.alloc (.cells #[.slice none 0 0, .func (.func 20) #[] #[]] 58)).alloc (.map #[] 0)) (.cells #[.pointer (some ⟨w.heap.size, 0, none⟩), .map (some (w.heap.size + 1))] 53)
    rw [z2] at hh
    have t3 := ((Below.heap_alloc _ (.cells #[.pointer (some ⟨w.heap.size, 0, none⟩), .map (some (w.heap.size + 1))] 53) w.heap.size (by omega)).trans (Below.heap_alloc _ (.map #[] 0) w.heap.size (by omega))).trans t1
    exact ⟨hh, ⟨[], ⟨t3, World.ownsRow_nil _ _ _ _, by omega, by simp, by simp, fun i h0 hi => by simp at hi, by simp⟩, List.Perm.refl _⟩, hs.alloc _, List.Pairwise.nil, List.Pairwise.nil, by omega, by omega, by omega, by omega, by omega⟩
  have hB : Below w.heap.size w (((w.alloc (.cells #[.slice none 0 0, .func (.func 20) #[] #[]] 58)).alloc (.map #[] 0)).alloc (.cells #[.pointer (some ⟨w.heap.size, 0, none⟩), .map (some (w.heap.size + 1))] 53)) := (((Below.refl _ w).alloc (Nat.le_refl _) _).alloc (by simp) _).alloc (by simp; omega) _
  have hQ := Lib.hid (And.intro hW hB)
  clear hW hB
  go_enter Try.func8, Try.ntmps8
  go_wp2
  go_ret
  exact ⟨rfl, hQ.out⟩

theorem QAt.size {w : World} {b0 hb tb mb n : Nat} {v : Value} {T : List M} (h : QAt w b0 hb tb mb n v T) : ∃ a cap, TreeOf w tb (.slice a T.length cap) ∧ v = .slice a T.length cap := by
  obtain ⟨l, hl, hp⟩ := h.t
  obtain ⟨a, cap, hv⟩ := hl.shape
  rw [hp.length_eq] at hv
  exact ⟨a, cap, hv ▸ hl.t, hv⟩
theorem hLen_any {w : World} {b0 hb tb mb n : Nat} {v : Value} {T : List M} (h : QAt w b0 hb tb mb n v T) : Calls Try.prog 11 #[.pointer (some ⟨hb, 0, none⟩)] w fun e w' => e = .returned (.int .i64 T.length) ∧ w = w' := by
  obtain ⟨a, cap, ht, _⟩ := h.size
  have hmd := made_ok h.h
  have c0 := h.h.c0
  have hsz := tsize_any tlay tb a T.length cap w ht.c0
  clear h ht
  generalize T.length = k at *
  go_enter Try.func11, Try.ntmps11
  go_wp2_with (first | (go_at_call 25; refine hmd.mono ?_; rintro e w' ⟨rfl, rfl⟩) | (go_at_call 26; refine hsz.mono ?_; rintro e w' ⟨rfl, rfl⟩))
  go_ret
  exact ⟨rfl, rfl⟩
theorem refusal_any {w : World} {b0 hb tb mb n : Nat} {v : Value} {T : List M} (h : QAt w b0 hb tb mb n v T) : Calls Try.prog 33 #[.pointer (some ⟨hb, 0, none⟩)] w fun e w' => e = .returned (.int .i64 (if T = [] then 6 else 0)) ∧ w = w' := by
  obtain ⟨a, cap, ht, _⟩ := h.size
  have hmd := made_ok h.h
  have c0 := h.h.c0
  have hsz := tsize_any tlay tb a T.length cap w ht.c0
  clear h ht
  by_cases hT : T = []
  · rw [if_pos hT]
    subst hT
    simp only [List.length_nil] at hsz
    go_enter Try.func33, Try.ntmps33
    go_wp2_with (first | (go_at_call 25; refine hmd.mono ?_; rintro e w' ⟨rfl, rfl⟩) | (go_at_call 26; refine hsz.mono ?_; rintro e w' ⟨rfl, rfl⟩))
    go_ret
    exact ⟨rfl, rfl⟩
  · rw [if_neg hT]
    have hk : ¬ (T.length : Int) = 0 := by
      intro e
      exact hT (List.eq_nil_of_length_eq_zero (by omega))
    generalize T.length = k at *
    go_enter Try.func33, Try.ntmps33
    go_wp2_with (first | (go_at_call 25; refine hmd.mono ?_; rintro e w' ⟨rfl, rfl⟩) | (go_at_call 26; refine hsz.mono ?_; rintro e w' ⟨rfl, rfl⟩))
    go_ret
    exact ⟨rfl, rfl⟩
end Go.Proofs.Ytbalbachmeiehaa
