/-
  Days: the program's add on a new day, and on any.
-/
import Derived.Test.YticffeklmhcniaaYK
namespace Go.Proofs.Yticffeklmhcniaa
open Go.ChangeShapes Go.WideShapes Go.ChangeAt Go.Shelf Go.RowKit Go.Lib Go.Sort Go.Deep Go.Maps
set_option linter.unusedVariables false

set_option maxHeartbeats 4000000 in
set_option maxRecDepth 100000 in
theorem add_new {w : World} {db lb : Nat} {W : Int} {ov : Value} {ds : List Int} {L : Int → List M} {fv : Int → Value} (h : DaysOf w db W lb ov ds L fv) (m : M) (hm : m.fits) (hs : hasS (ds.flatMap L) m.k.f m.u = false) (hT : (ds.flatMap L).length < 16384) (hd : dayOf W m.k.t ∉ ds) :
    Calls Try.prog 29 #[.pointer (some ⟨db, 0, none⟩), m.val] w fun e w' => e = .returned (.tuple #[]) ∧ AddRes w db W lb ov ds L fv m w' := by
  have mixed := mixed
  obtain ⟨B, hB⟩ : ∃ B, B = w.heap.size := ⟨_, rfl⟩
  obtain ⟨W0, hW0⟩ : ∃ W0, W0 = w.alloc (.cells m.cells 34) := ⟨_, rfl⟩
  have hb0 : Hid (Below w.heap.size w W0) := by rw [hW0]; exact (Below.refl _ w).alloc (Nat.le_refl _) _
  have hBx : Hid (BoxM W0 B m) := by rw [hW0, hB]; exact BoxM.mk w m
  have h1 := h.below hb0.out
  have hdsl : ds.length ≤ 16384 := by have := days_len (fun x hx => (h.days.2 x hx).1) (ds := ds) (L := L); omega
  have hday := dayOf_any h1.c0 h1.width h1.wide hm.1.1
  have hwf := day_wf h1.width hm.1.1
  have hlk := h1.lists.look_no hd hwf
  have hoB : ov.ownBlock ≠ some B := fun e => by have := RowAt.lt h.order B e; omega
  obtain ⟨d, hdd⟩ : ∃ d, d = dayOf W m.k.t := ⟨_, rfl⟩
  rw [← hdd] at hd hday hwf hlk
  have hbin := binS_any h1.order h1.days.1 d (by omega)
  have hstep : Hid (∀ p, PlaceI ds d p → Calls Try.prog 40 #[ov, .int .i64 p, .int .i64 d] W0 fun e w1 => ∃ g off cap : Nat, e = .returned (.slice (some ⟨g, off, none⟩) (ds.length + 1) cap) ∧ Hid (w1.cell? ⟨db, 2, none⟩ = some ov ∧ w1.frozen? ⟨db, 2, none⟩ = false ∧
      SBox db lb B m (w1.setCell ⟨db, 2, none⟩ (.slice (some ⟨g, off, none⟩) (ds.length + 1) cap)).drew ∧ AddSteps db lb B d m (.slice none 0 0) [] (AddRes w db W lb ov ds L fv m) (w1.setCell ⟨db, 2, none⟩ (.slice (some ⟨g, off, none⟩) (ds.length + 1) cap)).drew)) := by
    intro p hp
    refine (withI_any h1.order p hp.1 d (by omega)).mono ?_
    rintro e w1 ⟨g, off, cap, he, hr, hk, hg⟩
    refine ⟨g, off, cap, he, ?_⟩
    have hn : ∀ k, DOwn db lb ov ds fv k → k = db ∨ k = lb ∨ (∃ x ∈ ds, (fv x).ownBlock = some k) → ov.ownBlock ≠ some k := by
      rintro k - (rfl | rfl | ⟨x, hx, e⟩) e2
      · exact (h1.ov_db e2).1 rfl
      · exact (h1.ov_db e2).2 rfl
      · exact (h1.fv_db hx e).2.2 e2
    have hrow1 : w1.heap[db]? = some (.cells #[.int .i64 W, .map (some lb), ov] 78 (0, 0)) := (hk.block db h1.lt (fun e => (h1.ov_db e).1 rfl)).trans h1.row
    have k2 := KeptOff.set w1 ⟨db, 2, none⟩ (.slice (some ⟨g, off, none⟩) (ds.length + 1) cap)
    have hgdb : g ≠ db := by
      obtain ⟨cur, t1, _⟩ := hr
      rintro rfl
      rw [hrow1] at t1
      cases t1
    have hil : (ds.take p ++ d :: ds.drop p).length = ds.length + 1 := (perm_ins ds d p).length_eq
    have hor : AtI (w1.setCell ⟨db, 2, none⟩ (.slice (some ⟨g, off, none⟩) (ds.length + 1) cap)) (.slice (some ⟨g, off, none⟩) (ds.length + 1) cap) (ds.take p ++ d :: ds.drop p) := by
      have hr2 : RowI (w1.setCell ⟨db, 2, none⟩ (.slice (some ⟨g, off, none⟩) (ds.length + 1) cap)) g off cap (ds.take p ++ d :: ds.drop p) := RowIn.kept hr k2 hgdb
      unfold RowI at hr2
      unfold AtI
      rw [hil] at hr2 ⊢
      exact .inr ⟨g, off, cap, rfl, hr2⟩
    have hB5 : BoxM (w1.setCell ⟨db, 2, none⟩ (.slice (some ⟨g, off, none⟩) (ds.length + 1) cap)) B m := (hBx.out.kept hk hoB).kept k2 (fun e => by have := h.lt; simp at e; omega)
    have hpre : PutPre (w1.setCell ⟨db, 2, none⟩ (.slice (some ⟨g, off, none⟩) (ds.length + 1) cap)) db W lb (.slice (some ⟨g, off, none⟩) (ds.length + 1) cap) ds (ds.take p ++ d :: ds.drop p) L fv d (.slice none 0 0) [] m :=
      { row := days_set hrow1 _, lists := (h1.lists.kept hk (fun e => (h1.ov_db e).2 rfl)).kept k2 (fun e => h1.db_lb e.symm), order := hor, rise := rising_ins h1.days.1 hd hp, mem := fun x => mem_ins p, len := by rw [if_neg hd]; exact hil,
        each := fun x hx _ => (RowAt.kept (h1.each x hx) hk (fun k e => fun e2 => (h1.fv_db hx e).2.2 e2)).kept k2 (fun k e => (h1.fv_db hx e).1), at' := RowAt.nil _ _ _, off := fun x hx hn k hk => (by cases hk), apart := fun x hx y hy _ _ hne => h1.apart x hx y hy hne, days := fun x hx _ => h1.days.2 x hx,
        lo := List.Pairwise.nil, ld := fun x hx => (by cases hx), md := hdd.symm, mf := hm, width := h1.width, wide := h1.wide, unlike := h1.unlike, fits := h1.fits, small := hT, dsl := hdsl, new := hs, ll := by simp,
        perm := fun l' hp' => by
          obtain rfl := List.perm_singleton.1 hp'
          exact flat_more hd p [m] }
    refine ⟨by simp [World.cell?, hrow1], by simp [World.frozen?, hrow1], SBox.mk (hpre.drew').row (hB5.below (Below.refl _ _).drew), add_steps hpre.drew' (hB5.below (Below.refl _ _).drew) (by simp [Value.ownBlock]) ?_⟩
    intro w8 L' fv' hD hperm hk8 hown
    have hk8' := hk8.undrew
    have hall : KeptOff (DOwn db lb ov ds fv) w w8 := (((KeptOff.of_below hb0.out).trans (hk.mono (fun k _ e => .inr (.inr (.inl e))))).trans (k2.mono (fun k _ e => .inl e))).trans (hk8'.mono (fun k _ e => e.elim (fun e => .inr (.inl e)) (fun e => by cases e)))
    refine ⟨_, _, L', fv', hD, hperm, hall, ?_⟩
    rintro k (rfl | rfl | e | e)
    · exact .inl (.inl rfl)
    · exact .inl (.inr (.inl rfl))
    · simp [Value.ownBlock] at e
      subst e
      rcases hg with e | e
      · exact .inl (.inr (.inr (.inl e)))
      · exact .inr (Nat.le_trans hb0.out.size e)
    · rcases hown k e with (e | e) | ⟨x, hx, _, e⟩
      · cases e
      · exact .inr (Nat.le_trans hb0.out.size (Nat.le_trans hk.size (Nat.le_trans k2.size e)))
      · exact .inl (.inr (.inr (.inr ⟨x, hx, e⟩)))
  have c1 := h1.c1
  have c2 := h1.c2
  obtain ⟨-, x0, x1, x2, x3, x4, x5, x6⟩ := hBx.out.at
  simp only [Nat.zero_add] at x0 x1 x2 x3 x4 x5 x6
  rw [← hdd] at *
  unfold AddSteps at hstep
  simp only [M.val] at hstep ⊢
  generalize AddRes w db W lb ov ds L fv m = R at hstep ⊢
  clear hs hT hdsl h hwf hd hm hb0 hoB h1
  have hdd' := Lib.hid hdd
  clear hdd
  have hl0 : ([] : List M).length = 0 := rfl
  simp only [hl0] at hstep
  have hbin' := Lib.hid hbin
  clear hbin hl0
  go_enter Try.func29, Try.ntmps29
  go_upto_region 1 with (fail)
  rw [show w.alloc (.cells #[.int .i64 m.k.t, .int .i64 m.k.f, .int .i64 m.k.s, .int .i64 m.to, .int .i64 m.v, .int .i64 m.u, .bool m.anti] 34) = W0 from hW0.symm, ← hB]
  clear hW0 hB
  go_upto_region 6 with (first
    | (go_at_call 38; refine hday.mono ?_; rintro e w1 ⟨rfl, rfl⟩)
    | (go_at_call 39; refine hbin'.out.mono ?_; rintro e w2 ⟨p, bb, rfl, rfl, hp⟩; have hst := Lib.hid (hstep.out p hp))
    | (go_at_call 40; refine hst.out.mono ?_; rintro e w3 ⟨gg, oo, cc, rfl, h3⟩; obtain ⟨c3, f3, hS0, hplace⟩ := h3.out))
  clear c1 c2 c3 f3 x0 x1 x2 x3 x4 x5 x6 hst h3 hstep
  generalize w3.setCell ⟨db, 2, none⟩ (.slice (some ⟨gg, oo, none⟩) (ds.length + 1) cc) = W5 at *
  have hplace' := Lib.hid hplace
  clear hplace hday hlk
  go_region_held3 (fun w' => w'.cell? ⟨db, 1, none⟩ = some (.map (some lb)) ∧ (w'.cell? ⟨B, 0, none⟩ = some (.int .i64 m.k.t) ∧ w'.cell? ⟨B, 1, none⟩ = some (.int .i64 m.k.f) ∧ w'.cell? ⟨B, 2, none⟩ = some (.int .i64 m.k.s) ∧ w'.cell? ⟨B, 3, none⟩ = some (.int .i64 m.to) ∧ w'.cell? ⟨B, 4, none⟩ = some (.int .i64 m.v) ∧ w'.cell? ⟨B, 5, none⟩ = some (.int .i64 m.u) ∧ w'.cell? ⟨B, 6, none⟩ = some (.bool m.anti)))
    (first | exact hS0 | exact hS6 | exact hS7 | exact hS8)
    (first
      | (go_at_call 42; (with_reducible refine hplace'.out.mono ?_); rintro e w6 ⟨p6, rfl, h6⟩; obtain ⟨hS6, hwith⟩ := h6.out; have hwith' := Lib.hid hwith; clear hwith h6)
      | (go_at_call 41; (with_reducible refine hwith'.out.mono ?_); rintro e w7 ⟨g, off, cap7, rfl, h7⟩; obtain ⟨hS7, w8, hrun8, hS8, hR8⟩ := h7.out; have hR8' := Lib.hid hR8; clear hR8 h7))
  go_wp2
  first | go_end0 | refine bodyPost_ret (results_none rfl _ _ _) rfl ?_
  exact ⟨rfl, hR8'.out⟩
end Go.Proofs.Yticffeklmhcniaa
