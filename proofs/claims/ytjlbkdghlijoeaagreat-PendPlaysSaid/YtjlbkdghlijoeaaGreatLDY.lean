/-
  Rungs: a message taken out at its place.
  Rungs: the first message taken, and looked at.
-/
import Derived.Test.YtjlbkdghlijoeaaGreatLDS
import Derived.Test.YtjlbkdghlijoeaaGreatLDN
namespace Go.Proofs.YtjlbkdghlijoeaaGreat
open Go.ChangeShapes Go.WideShapes Go.ChangeAt Go.Shelf Go.RowKit Go.Lib Go.Sort Go.Deep
set_option linter.unusedVariables false

/-- Behind the end of a rung, if it ended. -/
def TakeEnd (w : World) (m : M) (R : World → Prop) (Bm : Nat) (w4 : World) : Prop := BoxM w4 Bm m ∧ BoxM w4 w.heap.size zeroM ∧ R (w4.setRow w.heap.size m.cells)
/-- Behind the cut. -/
def TakeRest (w : World) (rb i : Nat) (rp : Addr) (m : M) (R : World → Prop) (Bm : Nat) (W3 : World) : Prop :=
  Calls Tryz.prog 130 #[.pointer (some ⟨rb, 0, none⟩), .int .i64 i] W3 (fun e w' => e = .returned (.pointer (some rp)) ∧ W3 = w') ∧
  ∃ n' : Nat, Calls Tryz.prog 132 #[.pointer (some rp)] W3 (fun e w' => e = .returned (.int .i64 n') ∧ W3 = w') ∧
    Hid (n' = 0 → Calls Tryz.prog 141 #[.pointer (some ⟨rb, 0, none⟩), .int .i64 i] W3 fun e w4 => e = .returned (.tuple #[]) ∧ Hid (TakeEnd w m R Bm w4)) ∧ Hid (n' ≠ 0 → TakeEnd w m R Bm W3)
theorem TakeEnd.cells {w w4 : World} {m : M} {R : World → Prop} {Bm : Nat} (h : TakeEnd w m R Bm w4) : MsgAt w4 Bm 0 m ∧ Hid (BoxM w4 w.heap.size zeroM) ∧ Hid (R (w4.setRow w.heap.size m.cells)) := ⟨h.1.at, h.2.1, h.2.2⟩
set_option maxHeartbeats 8000000 in
set_option maxRecDepth 100000 in
theorem take_walk {w W1 : World} {rb i p : Nat} {rp : Addr} {m : M} {R : World → Prop} (hW1 : Hid (W1 = w.alloc (.cells zeroM.cells 34)))
    (hat1 : Calls Tryz.prog 130 #[.pointer (some ⟨rb, 0, none⟩), .int .i64 i] W1 fun e w' => e = .returned (.pointer (some rp)) ∧ W1 = w')
    (hcut : Calls Tryz.prog 140 #[.pointer (some rp), .int .i64 p] W1 fun e w2 => e = .returned m.val ∧ Hid (∀ W3, W3 = w2.alloc (.cells m.cells 34) → TakeRest w rb i rp m R w2.heap.size W3)) :
    Calls Tryz.prog 133 #[.pointer (some ⟨rb, 0, none⟩), .int .i64 i, .int .i64 p] w fun e w' => e = .returned m.val ∧ R w' := by
  obtain ⟨⟨mt, f, s⟩, tt, vv, u, an⟩ := m
  simp only [M.val, M.cells] at hcut ⊢
  have hW1z : Hid (w.alloc (.cells #[.int .i64 0, .int .i64 0, .int .i64 0, .int .i64 0, .int .i64 0, .int .i64 0, .bool false] 34) = W1) := hW1.out.symm
  go_enter Tryz.func133, Tryz.ntmps133
  go_upto_region 1 with (fail)
  rw [hW1z.out]
  go_upto_region 2 with (first
    | (go_at_call 130; refine hat1.mono ?_; rintro e w1 ⟨rfl, rfl⟩)
    | (go_at_call 140; refine hcut.mono ?_; rintro e w2 ⟨rfl, hr⟩))
  obtain ⟨hat3, n', hsz, hend, hno⟩ := hr.out _ rfl
  clear hr hcut hat1
  generalize w2.heap.size = Bm at *
  generalize w2.alloc (.cells #[.int .i64 mt, .int .i64 f, .int .i64 s, .int .i64 tt, .int .i64 vv, .int .i64 u, .bool an] 34) = W3 at *
  by_cases hn : n' = 0
  · have hcall := Lib.hid (hend.out hn)
    subst hn
    clear hend hno
    go_upto_region 4 with (first
      | (go_at_call 130; refine hat3.mono ?_; rintro e w1 ⟨rfl, rfl⟩)
      | (go_at_call 132; refine hsz.mono ?_; rintro e w1 ⟨rfl, rfl⟩)
      | (go_at_call 141; refine hcall.out.mono ?_; rintro e w4 ⟨rfl, hE⟩))
    obtain ⟨⟨-, y0, y1, y2, y3, y4, y5, y6⟩, hz3, hR3⟩ := hE.out.cells
    simp only [Nat.zero_add] at y0 y1 y2 y3 y4 y5 y6
    clear hE hcall
    go_wp2_with (refine wpList_store_row rfl 34 (.tmp 6) (.tmp 21) rfl w.heap.size #[.int .i64 mt, .int .i64 f, .int .i64 s, .int .i64 tt, .int .i64 vv, .int .i64 u, .bool an] rfl rfl 34 zeroM.cells hz3.out infoS rfl (M.cells_one ⟨⟨mt, f, s⟩, tt, vv, u, an⟩) ?_)
    obtain ⟨-, s0, s1, s2, s3, s4, s5, s6⟩ := (hz3.out.row ⟨⟨mt, f, s⟩, tt, vv, u, an⟩).at
    simp only [Nat.zero_add, M.cells] at s0 s1 s2 s3 s4 s5 s6
    exact bodyPost_ret (v := .agg #[.int .i64 mt, .int .i64 f, .int .i64 s, .int .i64 tt, .int .i64 vv, .int .i64 u, .bool an]) (by simp [results, Tryz.results133, go_sem, s0, s1, s2, s3, s4, s5, s6]) rfl ⟨rfl, hR3.out⟩
  · have hE := Lib.hid (hno.out hn)
    have hnI : ¬ (n' : Int) = 0 := by omega
    clear hend hno
    go_upto_region 4 with (first
      | (go_at_call 130; refine hat3.mono ?_; rintro e w1 ⟨rfl, rfl⟩)
      | (go_at_call 132; refine hsz.mono ?_; rintro e w1 ⟨rfl, rfl⟩))
    obtain ⟨⟨-, y0, y1, y2, y3, y4, y5, y6⟩, hz3, hR3⟩ := hE.out.cells
    simp only [Nat.zero_add] at y0 y1 y2 y3 y4 y5 y6
    clear hE
    go_wp2_with (refine wpList_store_row rfl 34 (.tmp 6) (.tmp 21) rfl w.heap.size #[.int .i64 mt, .int .i64 f, .int .i64 s, .int .i64 tt, .int .i64 vv, .int .i64 u, .bool an] rfl rfl 34 zeroM.cells hz3.out infoS rfl (M.cells_one ⟨⟨mt, f, s⟩, tt, vv, u, an⟩) ?_)
    obtain ⟨-, s0, s1, s2, s3, s4, s5, s6⟩ := (hz3.out.row ⟨⟨mt, f, s⟩, tt, vv, u, an⟩).at
    simp only [Nat.zero_add, M.cells] at s0 s1 s2 s3 s4 s5 s6
    exact bodyPost_ret (v := .agg #[.int .i64 mt, .int .i64 f, .int .i64 s, .int .i64 tt, .int .i64 vv, .int .i64 u, .bool an]) (by simp [results, Tryz.results133, go_sem, s0, s1, s2, s3, s4, s5, s6]) rfl ⟨rfl, hR3.out⟩

/-- What a taking out leaves, behind the world W. -/
def Taken (w : World) (rb : Nat) (most : Int) (bv av : Value) (us : List Up) (Bw : List M) (m : M) (w' : World) : Prop := ∃ B' us' bv' av', RungsRes w rb most bv av us w' B' us' bv' av' ∧ Stairs B' us' ∧ (m :: held B' us').Perm Bw
section
variable {w W1 w1 w4 : World} {rb : Nat} {most : Int} {bv bv' av av' : Value} {B B' : List M} {us us' : List Up} {m : M}
theorem RungsRes.box {k : Nat} (h : RungsRes w rb most bv av us w4 B' us' bv' av') (hb : BoxM w k m) (hn : ¬ ROwn rb bv av us k) : BoxM w4 k m := hb.kept h.2.1 hn
/-- A new block turned. -/
theorem RungsRes.row (hb : Below w.heap.size w W1) (hs : w.heap.size < W1.heap.size) (h0 : RungsOf w rb most bv B av us) (h : RungsRes W1 rb most bv av us w4 B' us' bv' av') (cs : Array Value) : RungsRes w rb most bv av us (w4.setRow w.heap.size cs) B' us' bv' av' := by
  have hno : ∀ k, ROwn rb bv' av' us' k → k ≠ w.heap.size := fun k hk e => by
    rcases h.2.2 k hk with e2 | e2
    · have := h0.own_lt e2
      omega
    · omega
  have hk := KeptOff.row w4 w.heap.size cs
  refine ⟨h.1.kept hk hno, ((KeptOff.of_below hb).trans h.2.1).then_new hk (fun k hk e => by omega), fun k e => (h.2.2 k e).imp id (fun e => by omega)⟩
end

theorem take_up {w : World} {rb : Nat} {most : Int} {bv av : Value} {B : List M} {us : List Up} (h : RungsOf w rb most bv B av us) (hS : Stairs B us) (hl : (held B us).length < 200000) (i p : Nat) (hi : i < us.length) (hp : p < (us.getD i default).L.length) :
    Calls Tryz.prog 133 #[.pointer (some ⟨rb, 0, none⟩), .int .i64 i, .int .i64 p] w fun e w' => e = .returned ((us.getD i default).L.getD p default).val ∧ Taken w rb most bv av us (held B us) ((us.getD i default).L.getD p default) w' := by
  have hrl := held_rungs (B := B) hS.up.full
  obtain ⟨X, u, Y, rfl, rfl⟩ := split_at hi
  rw [getD_mid] at hp ⊢
  have hu : u ∈ X ++ u :: Y := List.mem_append_right _ (List.mem_cons_self ..)
  have hul := held_mem (B := B) hu
  obtain ⟨W1, hW1⟩ : ∃ W1, W1 = w.alloc (.cells zeroM.cells 34) := ⟨_, rfl⟩
  have hb1 : Below w.heap.size w W1 := by rw [hW1]; exact (Below.refl _ w).alloc (Nat.le_refl _) _
  have hs1 : W1.heap.size = w.heap.size + 1 := by rw [hW1]; simp
  have hz1 : BoxM W1 w.heap.size zeroM := by rw [hW1]; exact BoxM.mk w zeroM
  have h1 := h.below hb1
  obtain ⟨ag, aoff, acap, rfl, hRU⟩ := AtU.form h1.abv (by omega)
  obtain ⟨cs, hag⟩ := RowAt.tag h1.abv (k := ag) rfl
  have hslot := hRU.slot X.length hi
  rw [getD_mid] at hslot
  obtain ⟨g, off, cap, hv, hR⟩ := AtM.form (h1.each u hu) (by omega)
  rw [hv] at hslot
  refine take_walk hW1 (at_up h1.c2 X.length hi) ((rcut_any hag hslot hR (fun e => h1.av_msg (h1.each u hu) (k := ag) (by rw [hv]; exact (vext_some.2 e).own) rfl) p hp (by omega)).mono ?_)
  rintro e w2 ⟨he, hres⟩
  refine ⟨he, fun W3 hW3 => ?_⟩
  rw [← hv] at hres
  obtain ⟨v', r2⟩ := h1.setUp hres
  have hb3 : Below w2.heap.size w2 W3 := by rw [hW3]; exact (Below.refl _ w2).alloc (Nat.le_refl _) _
  have r3 := r2.then_below hb3
  have hm3 : BoxM W3 w2.heap.size (u.L.getD p default) := by rw [hW3]; exact BoxM.mk w2 _
  have hz3 : BoxM W3 w.heap.size zeroM := r3.box hz1 (fun e => by have := h.own_lt e; omega)
  have hnot : ¬ ROwn rb bv (.slice (some ⟨ag, aoff, none⟩) (X ++ u :: Y).length acap) (X ++ ⟨v', u.L.eraseIdx p, u.foot⟩ :: Y) w2.heap.size := fun e => by have := r2.1.own_lt e; omega
  have hnotz : ¬ ROwn rb bv (.slice (some ⟨ag, aoff, none⟩) (X ++ u :: Y).length acap) (X ++ ⟨v', u.L.eraseIdx p, u.foot⟩ :: Y) w.heap.size := fun e => by
    rcases r2.2.2 _ e with e | e
    · have := h.own_lt e; omega
    · omega
  have h3 := r3.1
  have hlen3 : (X ++ u :: Y).length = (X ++ (⟨v', u.L.eraseIdx p, u.foot⟩ : Up) :: Y).length := by simp
  have hu3 : (⟨v', u.L.eraseIdx p, u.foot⟩ : Up) ∈ X ++ ⟨v', u.L.eraseIdx p, u.foot⟩ :: Y := List.mem_append_right _ (List.mem_cons_self ..)
  have hslot3 : W3.cell? ⟨ag, aoff + X.length * 8, none⟩ = some v' := by
    obtain ⟨g', off', cap', e, hRU3⟩ := AtU.form h3.abv (by omega)
    obtain ⟨⟨rfl, rfl⟩, rfl⟩ : (ag = g' ∧ aoff = off') ∧ acap = cap' := by simpa using e
    have := hRU3.slot X.length (by omega)
    rw [getD_mid] at this
    exact this
  obtain ⟨a', cap', hv', -⟩ := RowAt.shape (h3.each _ hu3)
  simp only at hv'
  rw [hv'] at hslot3
  refine ⟨at_up h3.c2 X.length hi, _, rsize_any hslot3, fun hn => ?_, fun hn => ?_⟩
  · have hnil : u.L.eraseIdx p = [] := List.length_eq_zero_iff.1 hn
    refine (end_up h3 (by omega)).mono ?_
    rintro e w4 ⟨he, av', r4⟩
    obtain ⟨s1, s2⟩ := hS.endUp hp hnil
    refine ⟨he, r4.box hm3 hnot, r4.box hz3 hnotz, B, X ++ Y, bv, av', ?_, s1, s2⟩
    exact RungsRes.row hb1 (by omega) h (r3.trans r4) _
  · have hne : u.L.eraseIdx p ≠ [] := fun e => hn (by rw [e]; rfl)
    obtain ⟨s1, s2⟩ := hS.cutUp hp hne v'
    exact ⟨hm3, hz3, B, _, bv, _, RungsRes.row hb1 (by omega) h r3 _, s1, s2⟩

theorem take_bot {w : World} {rb : Nat} {most : Int} {bv av : Value} {B : List M} {us : List Up} (h : RungsOf w rb most bv B av us) (hS : Stairs B us) (hU : Unlike (held B us)) (hm1 : 1 ≤ most) (hl : (held B us).length < 200000) (p : Nat) (hp : p < B.length) :
    Calls Tryz.prog 133 #[.pointer (some ⟨rb, 0, none⟩), .int .i64 us.length, .int .i64 p] w fun e w' => e = .returned (B.getD p default).val ∧ Taken w rb most bv av us (held B us) (B.getD p default) w' := by
  have hbl := held_len B us
  obtain ⟨W1, hW1⟩ : ∃ W1, W1 = w.alloc (.cells zeroM.cells 34) := ⟨_, rfl⟩
  have hb1 : Below w.heap.size w W1 := by rw [hW1]; exact (Below.refl _ w).alloc (Nat.le_refl _) _
  have hs1 : W1.heap.size = w.heap.size + 1 := by rw [hW1]; simp
  have hz1 : BoxM W1 w.heap.size zeroM := by rw [hW1]; exact BoxM.mk w zeroM
  have h1 := h.below hb1
  obtain ⟨aa, acap, hav, -⟩ := RowAt.shape h1.abv
  obtain ⟨g, off, cap, rfl, hR⟩ := AtM.form h1.bot (by omega)
  have hc2 := h1.c2
  rw [hav] at hc2
  refine take_walk hW1 (at_bot hc2) ((rcut_any h1.row h1.c0 hR (fun e => h1.msg_rb h1.bot (vext_some.2 e).own rfl) p hp (by omega)).mono ?_)
  rintro e w2 ⟨he, hres⟩
  refine ⟨he, fun W3 hW3 => ?_⟩
  obtain ⟨v', r2⟩ := h1.setBot hres
  have hb3 : Below w2.heap.size w2 W3 := by rw [hW3]; exact (Below.refl _ w2).alloc (Nat.le_refl _) _
  have r3 := r2.then_below hb3
  have hm3 : BoxM W3 w2.heap.size (B.getD p default) := by rw [hW3]; exact BoxM.mk w2 _
  have hz3 : BoxM W3 w.heap.size zeroM := r3.box hz1 (fun e => by have := h.own_lt e; omega)
  have hnot : ¬ ROwn rb v' av us w2.heap.size := fun e => by have := r2.1.own_lt e; omega
  have hnotz : ¬ ROwn rb v' av us w.heap.size := fun e => by
    rcases r2.2.2 _ e with e | e
    · have := h.own_lt e; omega
    · omega
  have h3 := r3.1
  have hc23 := h3.c2
  rw [hav] at hc23
  have hslot3 := h3.c0
  obtain ⟨a', cap', hv', -⟩ := RowAt.shape h3.bot
  rw [hv'] at hslot3
  refine ⟨at_bot hc23, _, rsize_any hslot3, fun hn => ?_, fun hn => ?_⟩
  · have hnil : B.eraseIdx p = [] := List.length_eq_zero_iff.1 hn
    have hperm := hS.endBot hp hnil
    have hpl := hperm.length_eq
    rw [List.length_cons] at hpl
    rw [hnil] at h3
    refine (end_bot h3 hS.up (hU.rest hperm) hm1 (by omega)).mono ?_
    rintro e w4 ⟨he, B', us', bv', av', r4, s1, s2⟩
    refine ⟨he, r4.box hm3 hnot, r4.box hz3 hnotz, B', us', bv', av', ?_, s1, (s2.cons _).trans hperm⟩
    exact RungsRes.row hb1 (by omega) h (r3.trans r4) _
  · have hne : B.eraseIdx p ≠ [] := fun e => hn (by rw [e]; rfl)
    obtain ⟨s1, s2⟩ := hS.cutBot hp hne
    exact ⟨hm3, hz3, _, _, _, _, RungsRes.row hb1 (by omega) h r3 _, s1, s2⟩
end Go.Proofs.YtjlbkdghlijoeaaGreat
namespace Go.Proofs.YtjlbkdghlijoeaaGreat
open Go.ChangeShapes Go.WideShapes Go.ChangeAt Go.Shelf Go.RowKit Go.Lib Go.Sort Go.Deep
set_option linter.unusedVariables false

set_option maxHeartbeats 4000000 in
set_option maxRecDepth 100000 in
theorem pop_walk {w W1 : World} {rb n acap : Nat} {a : Option Addr} {m : M} {R : World → Prop} (hW1 : Hid (W1 = w.alloc (.cells zeroM.cells 34))) (c2 : W1.cell? ⟨rb, 2, none⟩ = some (.slice a n acap))
    (htk : Calls Tryz.prog 133 #[.pointer (some ⟨rb, 0, none⟩), .int .i64 n, .int .i64 0] W1 fun e w2 => e = .returned m.val ∧ Hid (BoxM w2 w.heap.size zeroM ∧ R (w2.setRow w.heap.size m.cells))) :
    Calls Tryz.prog 127 #[.pointer (some ⟨rb, 0, none⟩)] w fun e w' => e = .returned m.val ∧ R w' := by
  obtain ⟨⟨mt, f, s⟩, tt, vv, u, an⟩ := m
  simp only [M.val, M.cells] at htk ⊢
  have hW1z : Hid (w.alloc (.cells #[.int .i64 0, .int .i64 0, .int .i64 0, .int .i64 0, .int .i64 0, .int .i64 0, .bool false] 34) = W1) := hW1.out.symm
  have htk' := Lib.hid htk
  clear htk
  go_enter Tryz.func127, Tryz.ntmps127
  go_upto_region 1 with (fail)
  rw [hW1z.out]
  go_wp2_with (first
    | (go_at_call 133; refine htk'.out.mono ?_; rintro e w2 ⟨rfl, hQ⟩)
    | (refine wpList_store_row rfl 34 (.tmp 2) (.tmp 9) rfl w.heap.size #[.int .i64 mt, .int .i64 f, .int .i64 s, .int .i64 tt, .int .i64 vv, .int .i64 u, .bool an] rfl rfl 34 zeroM.cells hQ.out.1 infoS rfl (M.cells_one ⟨⟨mt, f, s⟩, tt, vv, u, an⟩) ?_))
  obtain ⟨-, s0, s1, s2, s3, s4, s5, s6⟩ := (hQ.out.1.row ⟨⟨mt, f, s⟩, tt, vv, u, an⟩).at
  simp only [Nat.zero_add, M.cells] at s0 s1 s2 s3 s4 s5 s6
  exact bodyPost_ret (v := .agg #[.int .i64 mt, .int .i64 f, .int .i64 s, .int .i64 tt, .int .i64 vv, .int .i64 u, .bool an]) (by simp [results, Tryz.results127, go_sem, s0, s1, s2, s3, s4, s5, s6]) rfl ⟨rfl, hQ.out.2⟩
theorem pop_any {w : World} {rb : Nat} {most : Int} {bv av : Value} {B : List M} {us : List Up} (h : RungsOf w rb most bv B av us) (hS : Stairs B us) (hU : Unlike (held B us)) (hm1 : 1 ≤ most) (hl : (held B us).length < 200000) (hp : 0 < B.length) :
    Calls Tryz.prog 127 #[.pointer (some ⟨rb, 0, none⟩)] w fun e w' => e = .returned (B.getD 0 default).val ∧ Taken w rb most bv av us (held B us) (B.getD 0 default) w' := by
  obtain ⟨W1, hW1⟩ : ∃ W1, W1 = w.alloc (.cells zeroM.cells 34) := ⟨_, rfl⟩
  have hb1 : Below w.heap.size w W1 := by rw [hW1]; exact (Below.refl _ w).alloc (Nat.le_refl _) _
  have hs1 : W1.heap.size = w.heap.size + 1 := by rw [hW1]; simp
  have hz1 : BoxM W1 w.heap.size zeroM := by rw [hW1]; exact BoxM.mk w zeroM
  have h1 := h.below hb1
  obtain ⟨aa, acap, hav, -⟩ := RowAt.shape h1.abv
  have hc2 := h1.c2
  rw [hav] at hc2
  refine pop_walk hW1 hc2 ((take_bot h1 hS hU hm1 hl 0 hp).mono ?_)
  rintro e w2 ⟨he, B', us', bv', av', r, s1, s2⟩
  exact ⟨he, r.box hz1 (fun e => by have := h.own_lt e; omega), B', us', bv', av', RungsRes.row hb1 (by omega) h r _, s1, s2⟩

set_option maxHeartbeats 4000000 in
set_option maxRecDepth 100000 in
theorem first_any {w : World} {rb : Nat} {most : Int} {bv av : Value} {B : List M} {us : List Up} (h : RungsOf w rb most bv B av us) (hp : 0 < B.length) :
    Calls Tryz.prog 126 #[.pointer (some ⟨rb, 0, none⟩)] w fun e w' => e = .returned (B.getD 0 default).val ∧ Below w.heap.size w w' := by
  obtain ⟨g, off, cap, rfl, hR⟩ := AtM.form h.bot hp
  obtain ⟨m, hm⟩ : ∃ m, m = B.getD 0 default := ⟨_, rfl⟩
  obtain ⟨W1, hW1⟩ : ∃ W1, W1 = w.alloc (.cells zeroM.cells 34) := ⟨_, rfl⟩
  have hb1 : Below w.heap.size w W1 := by rw [hW1]; exact (Below.refl _ w).alloc (Nat.le_refl _) _
  have hz1 : BoxM W1 w.heap.size zeroM := by rw [hW1]; exact BoxM.mk w zeroM
  have c0 := (h.below hb1).c0
  obtain ⟨-, x0, x1, x2, x3, x4, x5, x6⟩ := (hR.kept0 hb1).at 0 hp
  rw [← hm] at x0 x1 x2 x3 x4 x5 x6 ⊢
  simp only [Nat.zero_mul, Nat.add_zero] at x0 x1 x2 x3 x4 x5 x6
  have hpI : (0 : Int) < (B.length : Int) := by omega
  have hz1' := Lib.hid hz1
  have hW1z : Hid (w.alloc (.cells #[.int .i64 0, .int .i64 0, .int .i64 0, .int .i64 0, .int .i64 0, .int .i64 0, .bool false] 34) = W1) := hW1.symm
  have hb1' := Lib.hid hb1
  clear h hR hz1 hW1 hb1 hm
  obtain ⟨⟨mt, f, s⟩, tt, vv, u, an⟩ := m
  simp only [M.val] at x0 x1 x2 x3 x4 x5 x6 ⊢
  go_enter Tryz.func126, Tryz.ntmps126
  go_upto_region 1 with (fail)
  rw [hW1z.out]
  go_wp2_with (refine wpList_store_row rfl 34 (.tmp 2) (.tmp 9) rfl w.heap.size #[.int .i64 mt, .int .i64 f, .int .i64 s, .int .i64 tt, .int .i64 vv, .int .i64 u, .bool an] rfl rfl 34 zeroM.cells hz1'.out infoS rfl (M.cells_one ⟨⟨mt, f, s⟩, tt, vv, u, an⟩) ?_)
  obtain ⟨-, s0, s1, s2, s3, s4, s5, s6⟩ := (hz1'.out.row ⟨⟨mt, f, s⟩, tt, vv, u, an⟩).at
  simp only [Nat.zero_add, M.cells] at s0 s1 s2 s3 s4 s5 s6
  exact bodyPost_ret (v := .agg #[.int .i64 mt, .int .i64 f, .int .i64 s, .int .i64 tt, .int .i64 vv, .int .i64 u, .bool an]) (by simp [results, Tryz.results126, go_sem, s0, s1, s2, s3, s4, s5, s6]) rfl ⟨rfl, below_setRow hb1'.out (Nat.le_refl _) _⟩
end Go.Proofs.YtjlbkdghlijoeaaGreat
