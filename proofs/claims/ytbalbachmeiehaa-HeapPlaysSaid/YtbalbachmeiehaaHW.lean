/-
  A queue: Push.
-/
import Derived.Test.YtbalbachmeiehaaHV
namespace Go.Proofs.Ytbalbachmeiehaa
open Go.ChangeShapes Go.WideShapes Go.ChangeAt Go.Shelf Go.RowKit Go.Lib Go.Sort Go.Deep Go.Maps
set_option linter.unusedVariables false

/-- What a Push answers. -/
def pushC (T : List M) (m : M) : Int := if hasS T m.k.f m.u = true then 8 else if 16384 ≤ T.length then 9 else 0
/-- What a Push makes of the messages. -/
def pushT (T : List M) (m : M) : List M := if hasS T m.k.f m.u = true then T else if 16384 ≤ T.length then T else mg ltM T [m]

theorem KeptOff.of_read {S : Nat → Prop} {w w' : World} (h : Read w w') : KeptOff S w w' := .of_below h.below

set_option maxHeartbeats 2000000 in
set_option maxRecDepth 100000 in
theorem hPush_stay {w : World} {b0 hb tb mb n : Nat} {v : Value} {T : List M} (h : QAt w b0 hb tb mb n v T) (m : M) (hm : m.fits) (hst : hasS T m.k.f m.u = true ∨ 16384 ≤ T.length) :
    Calls Try.prog 15 #[.pointer (some ⟨hb, 0, none⟩), m.val] w fun e w' => e = .returned (.int .i64 (pushC T m)) ∧ Below w.heap.size w w' := by
  have hB0 : Hid (Below w.heap.size w (w.alloc (.cells m.cells 31))) := (Below.refl _ w).alloc (Nat.le_refl _) _
  have hR0 := Lib.hid (BoxM.mk w m)
  have h0 := Lib.hid (h.below hB0.out)
  have hC : Hid (pushC T m = if hasS T m.k.f m.u = true then 8 else if 16384 ≤ T.length then 9 else 0) := rfl
  obtain ⟨r, hr⟩ : ∃ r, hasS T m.k.f m.u = r := ⟨_, rfl⟩
  rw [hr] at hst
  have hr' := Lib.hid hr
  have hmf := Lib.hid hm
  have hsend := fun w => sending_any m w
  simp only [M.val, sendV] at hsend
  have hhas : ∀ w1, Read (w.alloc (.cells m.cells 31)) w1 → Calls Try.prog 28 #[.pointer (some ⟨hb, 0, none⟩), .agg #[.int .i64 m.k.f, .int .i64 m.u]] w1 fun e w' => e = .returned (.bool r) ∧ Read w1 w' := by
    intro w1 hw1
    have h1 := h0.out.below hw1.below
    have := has_any h1.h h1.s (f := m.k.f) (u := m.u) hmf.out.1.2.1 hmf.out.2.2.2
    rwa [hr'.out] at this
  have hsz : ∀ w1, Read (w.alloc (.cells m.cells 31)) w1 → w1.cell? ⟨hb, 0, none⟩ = some (.pointer (some ⟨tb, 0, none⟩)) ∧ Calls Try.prog 26 #[.pointer (some ⟨tb, 0, none⟩)] w1 fun e w' => e = .returned (.int .i64 T.length) ∧ w1 = w' := by
    intro w1 hw1
    have h1 := h0.out.below hw1.below
    obtain ⟨a, cap, ht, _⟩ := h1.size
    exact ⟨h1.h.c0, tsize_any tlay tb a T.length cap w1 ht.c0⟩
  have hmd := made_ok h0.out.h
  obtain ⟨-, x0, x1, x2, x3, x4, x5, x6⟩ := hR0.out.at
  simp only [Nat.zero_add] at x0 x1 x2 x3 x4 x5 x6
  have hlt : tb < w.heap.size + 1 := by obtain ⟨l, hl, _⟩ := h0.out.t; have := hl.t.lt; simpa using this
  clear h h0 hr hm
  obtain ⟨W0, hW0⟩ : ∃ W0, W0 = w.alloc (.cells m.cells 31) := ⟨_, rfl⟩
  rw [← hW0] at hmd hB0 hR0 hhas hsz x0 x1 x2 x3 x4 x5 x6
  have hW0' := Lib.hid hW0
  clear hW0
  obtain ⟨c, hc⟩ : ∃ c, pushC T m = c := ⟨_, rfl⟩
  rw [hc] at hC ⊢
  clear hc
  obtain ⟨⟨t, f, s⟩, tt, vv, u, an⟩ := m
  simp only [M.val, M.cells] at hW0' hsend hhas x0 x1 x2 x3 x4 x5 x6 ⊢
  cases r with
  | true =>
    obtain rfl : c = 8 := by rw [hC.out, hr'.out]; simp
    go_enter Try.func15, Try.ntmps15
    go_upto_region 1 with (fail)
    rw [← hW0'.out]
    go_wp2_with (first
      | (go_at_call 25; refine hmd.mono ?_; rintro e w' ⟨rfl, rfl⟩)
      | (go_at_call 29; refine (hsend _).mono ?_; rintro e w1 ⟨rfl, hr1⟩; have hh1 := hhas w1 hr1; have hr1' := Lib.hid hr1; clear hr1)
      | (go_at_call 28; refine hh1.mono ?_; rintro e w2 ⟨rfl, hr2⟩; have hr2' := Lib.hid hr2; clear hr2))
    go_ret
    exact ⟨rfl, hB0.out.trans ((hr1'.out.trans hr2'.out).below.mono hB0.out.size)⟩
  | false =>
    have hk : 16384 ≤ T.length := by
      rcases hst with e | e
      · cases e
      · exact e
    obtain rfl : c = 9 := by rw [hC.out, hr'.out]; simp [hk]
    have hk' : (16384 : Int) ≤ (T.length : Int) := by omega
    generalize T.length = N at *
    clear hk hst
    go_enter Try.func15, Try.ntmps15
    go_upto_region 1 with (fail)
    rw [← hW0'.out]
    go_wp2_with (first
      | (go_at_call 25; refine hmd.mono ?_; rintro e w' ⟨rfl, rfl⟩)
      | (go_at_call 29; refine (hsend _).mono ?_; rintro e w1 ⟨rfl, hr1⟩; have hh1 := hhas w1 hr1; have hr1' := Lib.hid hr1; clear hr1)
      | (go_at_call 28; refine hh1.mono ?_; rintro e w2 ⟨rfl, hr2⟩; have hs2 := hsz w2 (hr1'.out.trans hr2); have hr2' := Lib.hid hr2; clear hr2; obtain ⟨c2, hs2⟩ := hs2)
      | (go_at_call 26; refine hs2.mono ?_; rintro e w' ⟨rfl, rfl⟩))
    go_ret
    exact ⟨rfl, hB0.out.trans ((hr1'.out.trans hr2'.out).below.mono hB0.out.size)⟩
end Go.Proofs.Ytbalbachmeiehaa
