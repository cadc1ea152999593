/-
  The laws of layer 2 over keys and messages: at every key and message they answer true, and what lay in memory is as it was.
-/
import Derived.Test.YtmfemimnoodpfaaEvent4
import Derived.Test.YtmfemimnoodpfaaOpen
namespace Go.Proofs.Ytmfemimnoodpfaa
open Go.ChangeShapes Go.WideShapes Go.ChangeAt Go.RowKit Go.Sort

/-- Where a key lies. -/
def KeyAt (w : World) (b o : Nat) (k : K) : Prop :=
  b < w.heap.size ∧ w.cell? ⟨b, o, none⟩ = some (.int .i64 k.t) ∧ w.cell? ⟨b, o + 1, none⟩ = some (.int .i64 k.f) ∧ w.cell? ⟨b, o + 2, none⟩ = some (.int .i64 k.s)
theorem KeyAt.read {w w' : World} {b o : Nat} {m : K} (h : KeyAt w b o m) (hr : Read w w') : KeyAt w' b o m := by
  obtain ⟨hb, h0, h1, h2⟩ := h
  exact ⟨Nat.lt_of_lt_of_le hb hr.size, hr.cell hb h0, hr.cell hb h1, hr.cell hb h2⟩
def K.cells (k : K) : Array Value := #[.int .i64 k.t, .int .i64 k.f, .int .i64 k.s]
theorem KeyAt.mk (w : World) (m : K) : KeyAt (w.alloc (.cells m.cells 23)) w.heap.size 0 m := by
  refine ⟨by simp, ?_, ?_, ?_⟩ <;> simp [K.cells]

theorem lawEventCompares (a : K) (_ : a.fits) (b : K) (_ : b.fits) (w : World) :
    Calls Try.prog 3 #[a.val, b.val] w fun e w' => e = .returned (.bool true) ∧ Below w.heap.size w w' := by
  have mixed := mixed
  have h1 := fun w => eCompare_any a b w
  have h2 := fun w => rCompare_any a b w
  have h3 := awake_any
  generalize cmpK a b = r at h1 h2
  have hl := (KeyAt.mk w a).read (Read.mk _ (.cells b.cells 23))
  have hr : KeyAt ((w.alloc (.cells a.cells 23)).alloc (.cells b.cells 23)) (w.heap.size + 1) 0 b := by
    have := KeyAt.mk (w.alloc (.cells a.cells 23)) b
    simpa using this
  have hrd := Read.two w (.cells a.cells 23) (.cells b.cells 23)
  obtain ⟨t, f, s⟩ := a
  obtain ⟨t', f', s'⟩ := b
  simp only [K.val, K.cells] at h1 h2 hl hr hrd ⊢
  go_enter Try.func3, Try.ntmps3
  go_wp2
  generalize World.alloc (World.alloc w _) _ = W at hl hr hrd ⊢
  have hl' := fun n os => hl.read ⟨n, os, rfl⟩
  have hr' := fun n os => hr.read ⟨n, os, rfl⟩
  simp only [KeyAt, forall_and, Nat.zero_add] at hl' hr'
  obtain ⟨-, l0, l1, l2⟩ := hl'
  obtain ⟨-, r0, r1, r2⟩ := hr'
  clear hl hr
  go_quiet_grown (first | (go_at_call 13; exact Calls.read_of (h1 _)) | (go_at_call 14; exact Calls.read_of (h2 _)) | (go_at_call 15; exact Calls.read_of (h3 _)))
  go_wp2
  go_ret
  exact ⟨rfl, (hrd.trans ⟨_, _, rfl⟩).below⟩

end Go.Proofs.Ytmfemimnoodpfaa
