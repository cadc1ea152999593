/-
  A queue: Push of a message that is taken.
-/
import Derived.Test.YtbalbachmeiehaaHW
namespace Go.Proofs.Ytbalbachmeiehaa
open Go.ChangeShapes Go.WideShapes Go.ChangeAt Go.Shelf Go.RowKit Go.Lib Go.Sort Go.Deep Go.Maps
set_option linter.unusedVariables false

set_option maxHeartbeats 4000000 in
set_option maxRecDepth 100000 in
theorem hPush_takes {w : World} {b0 hb tb mb n : Nat} {v : Value} {T : List M} (h : QAt w b0 hb tb mb n v T) (m : M) (hm : m.fits) (hs : hasS T m.k.f m.u = false) (hT : T.length < 16384) (hn : n < maxLen) :
    Calls Try.prog 15 #[.pointer (some ⟨hb, 0, none⟩), m.val] w fun e w' => e = .returned (.int .i64 0) ∧ ∃ v', QAt w' b0 hb tb mb (n + 1) v' (mg ltM T [m]) ∧ QStep w w' tb mb v v' := by
  have mixed := mixed
  have hB0 : Hid (Below w.heap.size w (w.alloc (.cells m.cells 31))) := (Below.refl _ w).alloc (Nat.le_refl _) _
  have hR0 := Lib.hid (BoxM.mk w m)
  have h0 := Lib.hid (h.below hB0.out)
  have hs' := Lib.hid hs
  have hmf := Lib.hid hm
  have hn' := Lib.hid hn
  have hput := Lib.hid (put_list h.o h.u hs)
  have hlh := h.lh
  have hlm := h.lm
  have hdt := h.dt
  have hrow : Hid (∀ k, v.ownBlock = some k → b0 ≤ k ∧ k < w.heap.size) := by
    obtain ⟨l, hl, _⟩ := h.t
    exact fun k hk => hl.own.lt k hk
  have hbd : tb < b0 ∧ b0 ≤ w.heap.size := by
    obtain ⟨l, hl, _⟩ := h.t
    exact ⟨hl.lt, hl.bd⟩
  obtain ⟨htb, hbd⟩ := hbd
  have hsend := fun w => sending_any m w
  simp only [M.val, sendV] at hsend
  have hhas : ∀ w1, Read (w.alloc (.cells m.cells 31)) w1 → Calls Try.prog 28 #[.pointer (some ⟨hb, 0, none⟩), .agg #[.int .i64 m.k.f, .int .i64 m.u]] w1 fun e w' => e = .returned (.bool false) ∧ Read w1 w' := by
    intro w1 hw1
    have h1 := h0.out.below hw1.below
    have := has_any h1.h h1.s (f := m.k.f) (u := m.u) hmf.out.1.2.1 hmf.out.2.2.2
    rwa [hs'.out] at this
  have hsz : ∀ w1, Read (w.alloc (.cells m.cells 31)) w1 → w1.cell? ⟨hb, 0, none⟩ = some (.pointer (some ⟨tb, 0, none⟩)) ∧ Calls Try.prog 26 #[.pointer (some ⟨tb, 0, none⟩)] w1 fun e w' => e = .returned (.int .i64 T.length) ∧ w1 = w' := by
    intro w1 hw1
    have h1 := h0.out.below hw1.below
    obtain ⟨a, cap, ht, _⟩ := h1.size
    exact ⟨h1.h.c0, tsize_any tlay tb a T.length cap w1 ht.c0⟩
  have hmd := made_ok h0.out.h
  obtain ⟨-, x0, x1, x2, x3, x4, x5, x6⟩ := hR0.out.at
  simp only [Nat.zero_add] at x0 x1 x2 x3 x4 x5 x6
  -- what the add leaves, and what the store into the map does then
  have hkey : Hid (keyOf Try.prog 68 (.agg #[.int .i64 m.k.f, .int .i64 m.u]) = some (sendL m.k.f m.u)) := keyOf_send hm.1.2.1 hm.2.2.2
  have hadd : Hid (∀ W, Below (w.alloc (.cells m.cells 31)).heap.size (w.alloc (.cells m.cells 31)) W → BoxM W w.heap.size m ∧ HeapOf W hb tb mb ∧
      Calls Try.prog 30 #[.pointer (some ⟨tb, 0, none⟩), m.val] W fun e w' => e = .returned (.tuple #[]) ∧ (BoxM w' w.heap.size m ∧ HeapOf w' hb tb mb ∧ ∀ W5, Below w'.heap.size w' W5 →
        BoxM W5 w.heap.size m ∧ HeapOf W5 hb tb mb ∧ ∃ D : DataW Unit, W5.ownsMap Try.prog 68 unitElem mb n D ∧ ∀ W6, W6.ownsMap Try.prog 68 unitElem mb (n + 1) (D.put (sendL m.k.f m.u) (.agg [])) → W5.mapTurned W6 mb →
          ∃ v', QAt W6 b0 hb tb mb (n + 1) v' (mg ltM T [m]) ∧ QStep w W6 tb mb v v')) := by
    intro W hW
    have hk1 : KeptOff (fun _ => False) (w.alloc (.cells m.cells 31)) W := .of_below hW
    have h1 := h0.out.below hW
    have hR1 := hR0.out.kept hk1 (fun e => e)
    obtain ⟨l, hl, hlp⟩ := h1.t
    refine ⟨hR1, h1.h, (tadd_any hl (by rw [hlp.length_eq]; exact hT) m hmf.out).mono ?_⟩
    rintro e w' ⟨he, v', l', t1, t2, t3, t4⟩
    have hszW : w.heap.size < W.heap.size := hR1.lt
    have no0 : ¬ (w.heap.size = tb ∨ v.ownBlock = some w.heap.size) := fun e => e.elim (fun e => by omega) (fun e => by have := (hrow.out _ e).2; omega)
    have noX : ∀ x, x < b0 → x ≠ tb → ¬ (x = tb ∨ v.ownBlock = some x) := fun x hx hne e => e.elim hne (fun e => by have := (hrow.out _ e).1; omega)
    have hR2 := hR1.kept t3 no0
    have hh2 := h1.h.kept t3 (noX hb hlh hdt.1)
    have hs2 := h1.s.kept t3 (noX mb hlm (Ne.symm hdt.2.2))
    refine ⟨he, hR2, hh2, ?_⟩
    intro W5 hW5
    have hk5 : KeptOff (fun _ => False) w' W5 := .of_below hW5
    obtain ⟨D, d1, d2⟩ := hs2.kept hk5 (fun e => e)
    refine ⟨hR2.kept hk5 (fun e => e), hh2.kept hk5 (fun e => e), D, d1, ?_⟩
    intro W6 hown6 hturn6
    have hk6 := KeptOff.turned hturn6
    obtain ⟨p1, p2, p3, p4⟩ := hput.out
    have hs6 : SendsAt W6 mb (n + 1) (T ++ [m]) := sends_put d1.isMap m hmf.out d2 hown6
    have hrow' : ∀ k, v'.ownBlock = some k → b0 ≤ k := fun k hk => (t1.own.lt k hk).1
    refine ⟨v', ⟨(hh2.kept hk5 (fun e => e)).kept hk6 hdt.2.1, ⟨l', (t1.kept hk5 (fun e => e) (fun _ _ e => e)).kept hk6 hdt.2.2 (fun k hk e => by have := hrow' k hk; omega), ?_⟩, hs6.congr (fun f u => hasS_perm p3.symm f u), p1, p2, hlh, hlm, hdt⟩, ?_, ?_⟩
    · exact t2.trans ((hlp.append_right [m]).trans p3.symm)
    · exact ((((KeptOff.of_below hB0.out).trans (hk1.mono (fun _ _ e => e.elim))).trans (t3.mono (fun k _ e => e.elim .inl (fun e => .inr (.inr e))))).trans (hk5.mono (fun _ _ e => e.elim))).trans (hk6.mono (fun k _ e => .inr (.inl e)))
    · intro g hg
      rcases t4 g hg with e | e
      · exact .inl e
      · exact .inr (by omega)
  have hTI : ¬ (16384 : Int) ≤ (T.length : Int) := by omega
  have hfinal : Hid (∀ W6, (∃ v', QAt W6 b0 hb tb mb (n + 1) v' (mg ltM T [m]) ∧ QStep w W6 tb mb v v') ↔ (∃ v', QAt W6 b0 hb tb mb (n + 1) v' (mg ltM T [m]) ∧ QStep w W6 tb mb v v')) := fun _ => Iff.rfl
  obtain ⟨Fin, hFin⟩ : ∃ Fin : World → Prop, Fin = fun W6 => ∃ v', QAt W6 b0 hb tb mb (n + 1) v' (mg ltM T [m]) ∧ QStep w W6 tb mb v v' := ⟨_, rfl⟩
  have hF1 : ∀ W6, (∃ v', QAt W6 b0 hb tb mb (n + 1) v' (mg ltM T [m]) ∧ QStep w W6 tb mb v v') = Fin W6 := fun W6 => by rw [hFin]
  simp only [hF1] at hadd ⊢
  clear h h0 hs hm hn hput hfinal hF1 hFin hrow
  obtain ⟨W0, hW0⟩ : ∃ W0, W0 = w.alloc (.cells m.cells 31) := ⟨_, rfl⟩
  rw [← hW0] at hmd hB0 hR0 hhas hsz hadd x0 x1 x2 x3 x4 x5 x6
  have hW0' := Lib.hid hW0
  clear hW0
  obtain ⟨kl, hkl⟩ : ∃ kl, kl = sendL m.k.f m.u := ⟨_, rfl⟩
  rw [← hkl] at hadd hkey
  clear hkl
  generalize T.length = N at *
  obtain ⟨m1, hm1⟩ : ∃ m1, m1 = m := ⟨_, rfl⟩
  rw [← hm1] at hR0 hadd
  have hm1' := Lib.hid hm1
  clear hm1 hs'
  obtain ⟨⟨t, f, s⟩, tt, vv, u, an⟩ := m
  have hmv : Hid (m1.val = .agg #[.int .i64 t, .int .i64 f, .int .i64 s, .int .i64 tt, .int .i64 vv, .int .i64 u, .bool an]) := by show _ = _; rw [hm1'.out]; rfl
  simp only [M.val, M.cells] at hW0' hsend hhas hkey x0 x1 x2 x3 x4 x5 x6 ⊢
  have hboxc : Hid (∀ W, BoxM W w.heap.size m1 → MsgAt W w.heap.size 0 ⟨⟨t, f, s⟩, tt, vv, u, an⟩) := by intro W hW; have := hW.at; rwa [hm1'.out] at this
  go_enter Try.func15, Try.ntmps15
  go_upto_region 1 with (fail)
  rw [← hW0'.out]
  go_upto_region 7 with (first
      | (go_at_call 25; refine hmd.mono ?_; rintro e w' ⟨rfl, rfl⟩)
      | (go_at_call 29; refine (hsend _).mono ?_; rintro e w1 ⟨rfl, hr1⟩; have hh1 := hhas w1 hr1; have hr1' := Lib.hid hr1; clear hr1)
      | (go_at_call 28; refine hh1.mono ?_; rintro e w2 ⟨rfl, hr2⟩; have hs2 := hsz w2 (hr1'.out.trans hr2); have hr2' := Lib.hid hr2; clear hr2; obtain ⟨c2, hs2⟩ := hs2)
      | (go_at_call 26; refine hs2.mono ?_; rintro e w' ⟨rfl, rfl⟩))
  have hb2 := (hr1'.out.trans hr2'.out).below
  obtain ⟨hR2, hh2, _⟩ := hadd.out w2 hb2
  have hb2' := Lib.hid hb2
  have e0 := fun q => wide_cell (w := w2) q hh2.lt hh2.c0
  obtain ⟨-, y0, y1, y2, y3, y4, y5, y6⟩ := hboxc.out w2 hR2
  simp only [Nat.zero_add] at y0 y1 y2 y3 y4 y5 y6
  have z0 := fun q => wide_cell (w := w2) q hR2.lt y0
  have z1 := fun q => wide_cell (w := w2) q hR2.lt y1
  have z2 := fun q => wide_cell (w := w2) q hR2.lt y2
  have z3 := fun q => wide_cell (w := w2) q hR2.lt y3
  have z4 := fun q => wide_cell (w := w2) q hR2.lt y4
  have z5 := fun q => wide_cell (w := w2) q hR2.lt y5
  have z6 := fun q => wide_cell (w := w2) q hR2.lt y6
  clear x0 x1 x2 x3 x4 x5 x6 y0 y1 y2 y3 y4 y5 y6 hmd hhas hsz hh1 hs2 c2 hb2 hh2 hR2
  refine wp_region_wide_tail 5 (by kernel_rfl) (by kernel_rfl) ?_
  simp only [List.take_succ_cons, List.take_zero, List.drop_succ_cons, List.drop_zero]
  repeat (quiet_step (fail))
  refine wpQuiet_nil ?_
  refine wide_all fun W3 hb3 => ?_
  clear e0 z0 z1 z2 z3 z4 z5 z6
  obtain ⟨-, -, hcall⟩ := hadd.out W3 (hb2'.out.trans (hb3.mono hb2'.out.size))
  rw [hmv.out] at hcall
  go_upto_region 8 with (go_at_call 30; refine hcall.mono ?_; rintro e w4 ⟨rfl, ha4⟩; have ha4' := Lib.hid ha4; clear ha4)
  obtain ⟨hR4, hh4, hnext⟩ := ha4'.out
  have hnext' := Lib.hid hnext
  have e1 := fun q => wide_cell (w := w4) q hh4.lt hh4.c1
  obtain ⟨-, y0, y1, y2, y3, y4, y5, y6⟩ := hboxc.out w4 hR4
  simp only [Nat.zero_add] at y0 y1 y2 y3 y4 y5 y6
  have z0 := fun q => wide_cell (w := w4) q hR4.lt y0
  have z1 := fun q => wide_cell (w := w4) q hR4.lt y1
  have z2 := fun q => wide_cell (w := w4) q hR4.lt y2
  have z3 := fun q => wide_cell (w := w4) q hR4.lt y3
  have z4 := fun q => wide_cell (w := w4) q hR4.lt y4
  have z5 := fun q => wide_cell (w := w4) q hR4.lt y5
  have z6 := fun q => wide_cell (w := w4) q hR4.lt y6
  have hs3 := fun q : WB => (hsend (wide w4 q)).mono (R' := fun e w' => e = .returned (.agg #[.int .i64 f, .int .i64 u]) ∧ Below (wide w4 q).heap.size (wide w4 q) w') (fun e w' h => ⟨h.1, h.2.below⟩)
  clear y0 y1 y2 y3 y4 y5 y6 hR4 hh4 hnext hcall ha4' hsend
  refine wp_region_wide_tail 7 (by kernel_rfl) (by kernel_rfl) ?_
  simp only [List.take_succ_cons, List.take_zero, List.drop_succ_cons, List.drop_zero]
  repeat (quiet_step (exact Calls.wide_of (hs3 _)))
  refine wpQuiet_nil ?_
  refine wide_all fun W5 hb5 => ?_
  clear e1 z0 z1 z2 z3 z4 z5 z6 hs3
  obtain ⟨-, -, D, hown, hlast⟩ := hnext'.out W5 hb5
  have hlast' := Lib.hid hlast
  have hkey' := hkey.out
  clear hlast hb5
  go_upto_region 9 with ((at_mapUpdate; refine wpList_mapUpdate_in _ rfl _ _ _ 51 rfl 68 71 sendLaw Try.underlying51 unitElem mb n D rfl hown hn'.out _ _ _ rfl rfl hkey' (.agg []) [] unitElem_mk ?_; intro w6 hown6 hturn6; have hQ6 := Lib.hid (hlast'.out w6 hown6 hturn6); clear hown6 hturn6))
  clear hown hlast' hkey'
  go_wp2
  go_ret
  exact ⟨rfl, hQ6.out⟩
end Go.Proofs.Ytbalbachmeiehaa
