/-
  Days: the program's add.
-/
import Derived.Test.YticffeklmhcniaaYJ
namespace Go.Proofs.Yticffeklmhcniaa
open Go.ChangeShapes Go.WideShapes Go.ChangeAt Go.Shelf Go.RowKit Go.Lib Go.Sort Go.Deep Go.Maps
set_option linter.unusedVariables false

/-- The map of the lists can be read, and a message in its box. -/
def SBox (db lb B : Nat) (m : M) (w' : World) : Prop := w'.cell? ⟨db, 1, none⟩ = some (.map (some lb)) ∧ (w'.cell? ⟨B, 0, none⟩ = some (.int .i64 m.k.t) ∧ w'.cell? ⟨B, 1, none⟩ = some (.int .i64 m.k.f) ∧ w'.cell? ⟨B, 2, none⟩ = some (.int .i64 m.k.s) ∧ w'.cell? ⟨B, 3, none⟩ = some (.int .i64 m.to) ∧ w'.cell? ⟨B, 4, none⟩ = some (.int .i64 m.v) ∧ w'.cell? ⟨B, 5, none⟩ = some (.int .i64 m.u) ∧ w'.cell? ⟨B, 6, none⟩ = some (.bool m.anti))
theorem SBox.mk {w : World} {db lb B : Nat} {m : M} {W : Int} {ov : Value} (h : w.heap[db]? = some (.cells #[.int .i64 W, .map (some lb), ov] 78 (0, 0))) (hB : BoxM w B m) : SBox db lb B m w := by
  obtain ⟨-, x0, x1, x2, x3, x4, x5, x6⟩ := hB.at
  simp only [Nat.zero_add] at x0 x1 x2 x3 x4 x5 x6
  exact ⟨by simp [World.cell?, h], x0, x1, x2, x3, x4, x5, x6⟩
theorem days_set {w : World} {db lb : Nat} {W : Int} {ov : Value} (h : w.heap[db]? = some (.cells #[.int .i64 W, .map (some lb), ov] 78 (0, 0))) (u : Value) :
    (w.setCell ⟨db, 2, none⟩ u).heap[db]? = some (.cells #[.int .i64 W, .map (some lb), u] 78 (0, 0)) := by
  simp [World.setCell, Array.getElem?_modify, h]
/-- The last region of add, in steps. -/
def AddSteps (db lb B : Nat) (d : Int) (m : M) (v : Value) (l : List M) (R : World → Prop) (w : World) : Prop :=
  Calls Try.prog 42 #[v, m.val] w fun e w6 => ∃ p : Nat, e = .returned (.int .i64 p) ∧ Hid (SBox db lb B m w6 ∧
    Calls Try.prog 41 #[v, .int .i64 p, m.val] w6 fun e w7 => ∃ g off cap : Nat, e = .returned (.slice (some ⟨g, off, none⟩) (l.length + 1) cap) ∧ Hid (SBox db lb B m w7 ∧
      ∃ w8, (Instr.mapUpdate 75 (.map (some lb)) (.int .i64 d) (.slice (some ⟨g, off, none⟩) (l.length + 1) cap)).run Try.prog w7 = .ok () w8 ∧ SBox db lb B m w8 ∧ R w8))
section
variable {w w5 : World} {db lb : Nat} {W : Int} {ov : Value} {ds ds' : List Int} {L : Int → List M} {fv : Int → Value} {d : Int} {v : Value} {l : List M} {m : M} {B : Nat}
theorem add_steps (h : PutPre w5 db W lb ov ds ds' L fv d v l m) (hB : BoxM w5 B m) (hBv : v.ownBlock ≠ some B) {R : World → Prop}
    (hR : ∀ w8 L' fv', DaysOf w8 db W lb ov ds' L' fv' → (ds'.flatMap L').Perm (m :: ds.flatMap L) → KeptOff (fun k => k = lb ∨ v.ownBlock = some k) w5 w8 → (∀ k, (∃ x ∈ ds', (fv' x).ownBlock = some k) → (v.ownBlock = some k ∨ w5.heap.size ≤ k) ∨ ∃ x ∈ ds, x ≠ d ∧ (fv x).ownBlock = some k) → R w8) :
    AddSteps db lb B d m v l R w5 := by
  have hdb : db < w5.heap.size := (Array.getElem?_eq_some_iff.1 h.row).1
  have hll := h.ll
  refine (placeIn_any h.at' h.lo m (by omega)).mono ?_
  rintro e w6 ⟨p, he, hb6, hp⟩
  have h6 := h.below hb6
  have hB6 := hB.below hb6
  refine ⟨p, he, SBox.mk h6.row hB6, (withM_any h6.at' p hp.1 m (by omega)).mono ?_⟩
  rintro e w7 ⟨g, off, cap, he7, hr, hk, hg⟩
  obtain ⟨w8, hrun, hk8, L', fv', hD, hperm, hown⟩ := put_step h6 hp hr hk hg
  have hB7 := hB6.kept hk hBv
  have hB8 : BoxM w8 B m := hB7.kept hk8 (fun e => by
    obtain ⟨es, c, t2⟩ := h.lists.tag
    rw [e] at hB
    unfold BoxM at hB
    rw [t2] at hB
    cases hB)
  have hrow7 : w7.heap[db]? = some (.cells #[.int .i64 W, .map (some lb), ov] 78 (0, 0)) := by
    rw [hk.block db (Nat.lt_of_lt_of_le hdb hb6.size) (fun e => ?_)]
    · exact h6.row
    · obtain ⟨cur, t1⟩ := h6.at'.tag e
      rw [h6.row] at t1
      cases t1
  refine ⟨g, off, cap, he7, SBox.mk hrow7 hB7, w8, hrun, SBox.mk hD.row hB8, hR w8 L' fv' hD hperm ?_ ?_⟩
  · have k1 : KeptOff (fun k => k = lb ∨ v.ownBlock = some k) w5 w6 := .of_below hb6
    exact (k1.trans (hk.mono (fun k _ e => .inr e))).trans (hk8.mono (fun k _ e => .inl e))
  · rintro k hk'
    rcases hown k hk' with rfl | h1
    · rcases hg with e | e
      · exact .inl (.inl e)
      · exact .inl (.inr (Nat.le_trans hb6.size e))
    · exact .inr h1

end
/-- The world behind a draw is as it was, as far as it is looked at. -/
theorem PutPre.drew' {w5 : World} {db lb : Nat} {W : Int} {ov : Value} {ds ds' : List Int} {L : Int → List M} {fv : Int → Value} {d : Int} {v : Value} {l : List M} {m : M} (h : PutPre w5 db W lb ov ds ds' L fv d v l m) : PutPre w5.drew db W lb ov ds ds' L fv d v l m := h.below (Below.refl _ w5).drew

set_option maxHeartbeats 4000000 in
set_option maxRecDepth 100000 in
theorem add_old {w : World} {db lb : Nat} {W : Int} {ov : Value} {ds : List Int} {L : Int → List M} {fv : Int → Value} (h : DaysOf w db W lb ov ds L fv) (m : M) (hm : m.fits) (hs : hasS (ds.flatMap L) m.k.f m.u = false) (hT : (ds.flatMap L).length < 16384) (hd : dayOf W m.k.t ∈ ds) :
    Calls Try.prog 29 #[.pointer (some ⟨db, 0, none⟩), m.val] w fun e w' => e = .returned (.tuple #[]) ∧ AddRes w db W lb ov ds L fv m w' := by
  have mixed := mixed
  obtain ⟨B, hB⟩ : ∃ B, B = w.heap.size := ⟨_, rfl⟩
  obtain ⟨W0, hW0⟩ : ∃ W0, W0 = w.alloc (.cells m.cells 34) := ⟨_, rfl⟩
  have hb0 : Hid (Below w.heap.size w W0) := by rw [hW0]; exact (Below.refl _ w).alloc (Nat.le_refl _) _
  have hBx : Hid (BoxM W0 B m) := by rw [hW0, hB]; exact BoxM.mk w m
  have h1 := h.below hb0.out
  have hvB : (fv (dayOf W m.k.t)).ownBlock ≠ some B := fun e => by have := RowAt.lt (h.each _ hd) B e; omega
  have hdsl : ds.length ≤ 16384 := by have := days_len (fun x hx => (h.days.2 x hx).1) (ds := ds) (L := L); omega
  have hll : (L (dayOf W m.k.t)).length ≤ 16384 := by have := day_len hd (L := L); omega
  have hpre : Hid (PutPre W0.drew db W lb ov ds ds L fv (dayOf W m.k.t) (fv (dayOf W m.k.t)) (L (dayOf W m.k.t)) m) := PutPre.drew' { row := h1.row, lists := h1.lists, order := h1.order, rise := h1.days.1, mem := fun x => ⟨.inr, fun hx => hx.elim (fun e => e ▸ hd) id⟩, len := by rw [if_pos hd], each := fun x hx _ => h1.each x hx, at' := h1.each _ hd, off := fun x hx hn k hk => h1.apart _ hd x hx (Ne.symm hn) k hk, apart := fun x hx y hy _ _ hne => h1.apart x hx y hy hne, days := fun x hx _ => h1.days.2 x hx, lo := (h1.days.2 _ hd).2.1, ld := (h1.days.2 _ hd).2.2, md := rfl, mf := hm, width := h1.width, wide := h1.wide, unlike := h1.unlike, fits := h1.fits, small := hT, dsl := hdsl, new := hs, ll := hll, perm := fun l' hp => flat_turn (rising_nodup h1.days.1) hd (X := []) (Y := [m]) hp }
  have hstp : Hid (AddSteps db lb B (dayOf W m.k.t) m (fv (dayOf W m.k.t)) (L (dayOf W m.k.t)) (AddRes w db W lb ov ds L fv m) W0.drew) := by
    refine add_steps hpre.out (hBx.out.below (Below.refl _ W0).drew) hvB ?_
    intro w8 L' fv' hD hperm hk hown
    have hk' : KeptOff (fun k => k = lb ∨ (fv (dayOf W m.k.t)).ownBlock = some k) w w8 := (KeptOff.of_below hb0.out).trans hk.undrew
    refine ⟨ov, ds, L', fv', hD, hperm, hk'.mono (fun k _ e => ?_), ?_⟩
    · rcases e with rfl | e
      · exact .inr (.inl rfl)
      · exact .inr (.inr (.inr ⟨_, hd, e⟩))
    · rintro k (rfl | rfl | e | e)
      · exact .inl (.inl rfl)
      · exact .inl (.inr (.inl rfl))
      · exact .inl (.inr (.inr (.inl e)))
      · rcases hown k e with (e | e) | ⟨x, hx, _, e⟩
        · exact .inl (.inr (.inr (.inr ⟨_, hd, e⟩)))
        · exact .inr (Nat.le_trans hb0.out.size e)
        · exact .inl (.inr (.inr (.inr ⟨x, hx, e⟩)))
  have hday := dayOf_any h1.c0 h1.width h1.wide hm.1.1
  have hwf := day_wf h1.width hm.1.1
  have hlk := h1.lists.look hd hwf
  obtain ⟨a, cap, hv, -⟩ := RowAt.shape (h1.each _ hd)
  have hne : (L (dayOf W m.k.t)).length ≠ 0 := fun e => (h1.days.2 _ hd).1 (List.eq_nil_of_length_eq_zero e)
  have c1 := h1.c1
  have hS0 : SBox db lb B m W0.drew := SBox.mk hpre.out.row (hBx.out.below (Below.refl _ W0).drew)
  rw [hv] at hlk hstp
  generalize (L (dayOf W m.k.t)) = l at *
  generalize dayOf W m.k.t = d at *
  obtain ⟨-, x0, x1, x2, x3, x4, x5, x6⟩ := hBx.out.at
  simp only [Nat.zero_add] at x0 x1 x2 x3 x4 x5 x6
  have hneI : ¬ ((l.length : Int) = 0) := by omega
  unfold AddSteps at hstp
  have hplace := hstp.out
  simp only [M.val] at hplace ⊢
  generalize AddRes w db W lb ov ds L fv m = R at hplace ⊢
  clear hpre hstp h1 hs hT hdsl hll h hv hvB hwf hd hm hb0
  generalize hn : l.length = n at *
  clear hn
  go_enter Try.func29, Try.ntmps29
  go_upto_region 1 with (fail)
  rw [show w.alloc (.cells #[.int .i64 m.k.t, .int .i64 m.k.f, .int .i64 m.k.s, .int .i64 m.to, .int .i64 m.v, .int .i64 m.u, .bool m.anti] 34) = W0 from hW0.symm, ← hB]
  clear hW0 hB
  go_upto_region 6 with (go_at_call 38; refine hday.mono ?_; rintro e w1 ⟨rfl, rfl⟩)
  have hplace' := Lib.hid hplace
  clear hplace hday hlk
  go_region_held3 (fun w' => w'.cell? ⟨db, 1, none⟩ = some (.map (some lb)) ∧ (w'.cell? ⟨B, 0, none⟩ = some (.int .i64 m.k.t) ∧ w'.cell? ⟨B, 1, none⟩ = some (.int .i64 m.k.f) ∧ w'.cell? ⟨B, 2, none⟩ = some (.int .i64 m.k.s) ∧ w'.cell? ⟨B, 3, none⟩ = some (.int .i64 m.to) ∧ w'.cell? ⟨B, 4, none⟩ = some (.int .i64 m.v) ∧ w'.cell? ⟨B, 5, none⟩ = some (.int .i64 m.u) ∧ w'.cell? ⟨B, 6, none⟩ = some (.bool m.anti)))
    (first | exact hS0 | exact hS6 | exact hS7 | exact hS8)
    (first
      | (go_at_call 42; (with_reducible refine hplace'.out.mono ?_); rintro e w6 ⟨p, rfl, h6⟩; obtain ⟨hS6, hwith⟩ := h6.out; have hwith' := Lib.hid hwith; clear hwith h6)
      | (go_at_call 41; (with_reducible refine hwith'.out.mono ?_); rintro e w7 ⟨g, off, cap7, rfl, h7⟩; obtain ⟨hS7, w8, hrun8, hS8, hR8⟩ := h7.out; have hR8' := Lib.hid hR8; clear hR8 h7))
  go_wp2
  first | go_end0 | refine bodyPost_ret (results_none rfl _ _ _) rfl ?_
  exact ⟨rfl, hR8'.out⟩
end Go.Proofs.Yticffeklmhcniaa
