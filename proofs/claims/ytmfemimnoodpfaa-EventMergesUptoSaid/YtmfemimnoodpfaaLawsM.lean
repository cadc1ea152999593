/-
  The laws of layer 2 over messages: at every message they answer true, and what lay in memory is as it was.
-/
import Derived.Test.YtmfemimnoodpfaaLawsK
namespace Go.Proofs.Ytmfemimnoodpfaa
open Go.ChangeShapes Go.WideShapes Go.ChangeAt Go.RowKit Go.Sort

theorem lawEventChecks (a : M) (_ : a.fits) (w : World) :
    Calls Try.prog 5 #[a.val] w fun e w' => e = .returned (.bool true) ∧ Below w.heap.size w w' := by
  have mixed := mixed
  have h1 := fun w => eCheck_any a w
  have h2 := fun w => rCheck_any a w
  have h3 := awake_any
  generalize chkM a = r at h1 h2
  have hl := MsgAt.mk w a
  have hrd := Read.mk w (.cells a.cells 28)
  obtain ⟨⟨t, f, s⟩, to, v, u, an⟩ := a
  simp only [M.val, M.cells] at h1 h2 hl hrd ⊢
  go_enter Try.func5, Try.ntmps5
  go_wp2
  generalize World.alloc w _ = W at hl hrd ⊢
  have hl' := fun n os => hl.read ⟨n, os, rfl⟩
  simp only [MsgAt, forall_and, Nat.zero_add] at hl'
  obtain ⟨-, l0, l1, l2, l3, l4, l5, l6⟩ := hl'
  clear hl
  go_quiet_grown (first | (go_at_call 24; exact Calls.read_of (h1 _)) | (go_at_call 25; exact Calls.read_of (h2 _)) | (go_at_call 15; exact Calls.read_of (h3 _)))
  go_wp2
  go_ret
  exact ⟨rfl, (hrd.trans ⟨_, _, rfl⟩).below⟩

set_option maxHeartbeats 1000000 in
theorem lawEventPairs (a : M) (_ : a.fits) (b : M) (_ : b.fits) (w : World) :
    Calls Try.prog 4 #[a.val, b.val] w fun e w' => e = .returned (.bool true) ∧ Below w.heap.size w w' := by
  have mixed := mixed
  have h1 := fun w => eBefore_any a b w
  have h2 := fun w => rBefore_any a b w
  have h3 := awake_any
  have h4 := fun w => eOne_any a b w
  have h5 := fun w => rOne_any a b w
  have h6 := fun w => eTwins_any a b w
  have h7 := fun w => rTwins_any a b w
  have h8 := fun w => eTwin_any a w
  have h9 := fun w => rTwin_any a w
  have he := fun w => eqlM (twinM a) (twinM a) w
  have hd : decide (twinM a = twinM a) = true := by simp
  rw [hd] at he
  clear hd
  generalize ltM a b = r1 at h1 h2
  generalize oneM a b = r2 at h4 h5
  generalize twinsM a b = r3 at h6 h7
  obtain ⟨hl, hr⟩ := MsgAt.two w a b
  have hrd := Read.two w (.cells a.cells 28) (.cells b.cells 28)
  obtain ⟨⟨t, f, s⟩, to, v, u, an⟩ := a
  obtain ⟨⟨t', f', s'⟩, to', v', u', an'⟩ := b
  simp only [M.val, M.cells, twinM] at h1 h2 h4 h5 h6 h7 h8 h9 he hl hr hrd ⊢
  go_enter Try.func4, Try.ntmps4
  go_wp2
  generalize World.alloc (World.alloc w _) _ = W at hl hr hrd ⊢
  have hl' := fun n os => hl.read ⟨n, os, rfl⟩
  have hr' := fun n os => hr.read ⟨n, os, rfl⟩
  simp only [MsgAt, forall_and, Nat.zero_add] at hl' hr'
  obtain ⟨-, l0, l1, l2, l3, l4, l5, l6⟩ := hl'
  obtain ⟨-, r0, r1, r2, r3, r4, r5, r6⟩ := hr'
  clear hl hr
  go_quiet_grown (first | (go_at_call 16; exact Calls.read_of (h1 _)) | (go_at_call 17; exact Calls.read_of (h2 _)) | (go_at_call 15; exact Calls.read_of (h3 _)) | (go_at_call 18; exact Calls.read_of (h4 _)) | (go_at_call 19; exact Calls.read_of (h5 _)) | (go_at_call 20; exact Calls.read_of (h6 _)) | (go_at_call 21; exact Calls.read_of (h7 _)) | (go_at_call 22; exact Calls.read_of (h8 _)) | (go_at_call 23; exact Calls.read_of (h9 _)))
  go_wp2
  go_ret
  exact ⟨rfl, (hrd.trans ⟨_, _, rfl⟩).below⟩

theorem twinM_twinM (a : M) : twinM (twinM a) = a := by simp [twinM]
theorem oneM_twinM (a : M) : oneM a (twinM a) = true := by simp [oneM, twinM]
theorem twinsM_twinM (a : M) : twinsM a (twinM a) = true := by cases h : a.anti <;> simp [twinsM, oneM, twinM, h]
theorem twinsM_twinM' (a : M) : twinsM (twinM a) a = true := by cases h : a.anti <;> simp [twinsM, oneM, twinM, h]
theorem twinsM_self (a : M) : twinsM a a = false := by simp [twinsM]
theorem ltM_twinM (a : M) : ltM a (twinM a) = false := by simp [ltM, twinM, cmpK_self]

set_option maxHeartbeats 1000000 in
theorem lawEventTwins (a : M) (_ : a.fits) (w : World) :
    Calls Try.prog 9 #[a.val] w fun e w' => e = .returned (.bool true) ∧ Below w.heap.size w w' := by
  have mixed := mixed
  have h1 := fun w => eTwin_any a w
  have h2 := fun w => eTwin_any (twinM a) w
  have h3 := awake_any
  have h4 := fun t f s to v u an t' f' s' to' v' u' an' w => eTwins_any ⟨⟨t, f, s⟩, to, v, u, an⟩ ⟨⟨t', f', s'⟩, to', v', u', an'⟩ w
  have q4 := twinsM_twinM a
  have q5 := twinsM_twinM' a
  have q7 := twinsM_self a
  have h6 := fun w => eOne_any a (twinM a) w
  have h8 := fun w => eBefore_any a (twinM a) w
  have he := fun w => eqlM a a w
  have hd : decide (a = a) = true := by simp
  rw [hd] at he
  rw [twinM_twinM] at h2
  rw [oneM_twinM] at h6
  rw [ltM_twinM] at h8
  clear hd
  have hl := MsgAt.mk w a
  have hrd := Read.mk w (.cells a.cells 28)
  have hb : ∀ W : World, MsgAt (W.alloc (.cells (twinM a).cells 28)) W.heap.size 0 (twinM a) := fun W => MsgAt.mk W _
  have hrb : ∀ W : World, Read W (W.alloc (.cells (twinM a).cells 28)) := fun W => Read.mk W _
  generalize ha' : twinM a = a' at h1 h2 q4 q5 h6 h8 hb hrb
  clear ha'
  obtain ⟨⟨t, f, s⟩, to, v, u, an⟩ := a
  obtain ⟨⟨t', f', s'⟩, to', v', u', an'⟩ := a'
  simp only [M.val, M.cells] at h1 h2 h4 h6 h8 he hl hrd hb hrb ⊢
  go_enter Try.func9, Try.ntmps9
  go_wp2_with (go_at_call 22; refine (h1 _).mono ?_; rintro e w1 ⟨rfl, hr1⟩)
  have hlb := (hl.read hr1).read (hrb _)
  have hb' := hb w1
  have hrd' := (hrd.trans hr1).trans (hrb w1)
  clear hl hrd hr1 hb hrb
  generalize World.alloc w1 _ = W at hlb hb' hrd' ⊢
  have hl' := fun n os => hlb.read ⟨n, os, rfl⟩
  have hr' := fun n os => hb'.read ⟨n, os, rfl⟩
  simp only [MsgAt, forall_and, Nat.zero_add] at hl' hr'
  obtain ⟨-, l0, l1, l2, l3, l4, l5, l6⟩ := hl'
  obtain ⟨-, r0, r1, r2, r3, r4, r5, r6⟩ := hr'
  clear hlb hb'
  go_quiet_grown (first | (go_at_call 22; exact Calls.read_of (h2 _)) | (go_at_call 15; exact Calls.read_of (h3 _)) | (go_at_call 20; exact Calls.read_of (h4 _ _ _ _ _ _ _ _ _ _ _ _ _ _ _)) | (go_at_call 18; exact Calls.read_of (h6 _)) | (go_at_call 16; exact Calls.read_of (h8 _)))
  go_wp2
  go_ret
  exact ⟨rfl, (hrd'.trans ⟨_, _, rfl⟩).below⟩

end Go.Proofs.Ytmfemimnoodpfaa
