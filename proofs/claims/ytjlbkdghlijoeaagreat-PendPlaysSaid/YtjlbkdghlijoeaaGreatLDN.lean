/-
  Rungs: a message put.
-/
import Derived.Test.YtjlbkdghlijoeaaGreatLDM
import Derived.Test.YtjlbkdghlijoeaaGreatQT
import Derived.Test.YtjlbkdghlijoeaaGreatLDG
namespace Go.Proofs.YtjlbkdghlijoeaaGreat
open Go.ChangeShapes Go.WideShapes Go.ChangeAt Go.Shelf Go.RowKit Go.Lib Go.Sort Go.Deep
set_option linter.unusedVariables false

theorem foot_mono {us : List Up} (h : Steps us) (m : M) (i j : Nat) (hij : i < j) (hj : j < us.length) (hl : (!ltM m (us.getD i default).foot) = true) : (!ltM m (us.getD j default).foot) = true := by
  rw [getD_at us i (by omega)] at hl
  rw [getD_at us j hj]
  have hp := List.pairwise_iff_getElem.1 h.step i j (by omega) hj hij
  cases hq : ltM m us[j].foot with
  | false => rfl
  | true =>
    have := lt_trans' hq hp.2
    rw [this] at hl
    cases hl
theorem split_at {us : List Up} {p : Nat} (hp : p < us.length) : ∃ X u Y, us = X ++ u :: Y ∧ X.length = p := by
  refine ⟨us.take p, us[p], us.drop (p + 1), ?_, ?_⟩
  · rw [← List.drop_eq_getElem_cons hp, List.take_append_drop]
  · rw [List.length_take, Nat.min_eq_left (by omega)]
theorem getD_mid {α : Type} [Inhabited α] (X : List α) (u : α) (Y : List α) : (X ++ u :: Y).getD X.length default = u := by simp [List.getD_eq_getElem?_getD]
theorem getD_in {α : Type} [Inhabited α] {X Y : List α} {x : α} (hx : x ∈ X) : ∃ i, i < X.length ∧ (X ++ Y).getD i default = x := by
  obtain ⟨i, hi, rfl⟩ := List.getElem_of_mem hx
  refine ⟨i, hi, ?_⟩
  rw [getD_at _ _ (by rw [List.length_append]; omega), List.getElem_append_left hi]

/-- A message put into a rung above. -/
theorem putUp_any {w W : World} {rb : Nat} {most : Int} {bv av : Value} {B : List M} {us : List Up} (h : RungsOf w rb most bv B av us) (hS : Stairs B us) (m : M) (hl : (held B us).length < 200000) (hW : Below w.heap.size w W) {p : Nat} (hp : p < us.length)
    (h1 : ∀ i, i < p → (!ltM m (us.getD i default).foot) = false) (h2 : (!ltM m (us.getD p default).foot) = true) :
    ∃ ag aoff acap : Nat, av = .slice (some ⟨ag, aoff, none⟩) us.length acap ∧ Calls Tryz.prog 135 #[.pointer (some ⟨ag, aoff + p * 8, none⟩), m.val] W fun e w' => e = .returned (.tuple #[]) ∧ Spilt w rb most bv av us B (m :: held B us) w' := by
  have hr := h.below hW
  obtain ⟨X, u, Y, rfl, rfl⟩ := split_at hp
  obtain ⟨ag, aoff, acap, rfl, hRU⟩ := AtU.form hr.abv (by omega)
  have hu : u ∈ X ++ u :: Y := List.mem_append_right _ (List.mem_cons_self ..)
  rw [getD_mid] at h2
  have hX : ∀ x ∈ X, ltM m x.foot = true := fun x hx => by
    obtain ⟨i, hi, e⟩ := getD_in (Y := u :: Y) hx
    have := h1 i hi
    rw [e] at this
    simpa using this
  have hul := held_mem (B := B) hu
  obtain ⟨cs, hag⟩ := RowAt.tag hr.abv (k := ag) rfl
  have hslot := hRU.slot X.length hp
  rw [getD_mid] at hslot
  refine ⟨ag, aoff, acap, rfl, (radd_any hag hslot (hr.each u hu) (fun e => hr.av_msg (hr.each u hu) e.own rfl) m (by omega)).mono ?_⟩
  rintro e w' ⟨he, hres⟩
  obtain ⟨v', hres'⟩ := hr.setUp hres
  obtain ⟨s1, s2⟩ := hS.putUp hX (by simpa using h2) v'
  exact ⟨he, _, _, _, _, RungsRes.from_below hW hres', s1, s2⟩
/-- A message put into the bottom. -/
theorem putBot_any {w W : World} {rb : Nat} {most : Int} {bv av : Value} {B : List M} {us : List Up} (h : RungsOf w rb most bv B av us) (hS : Stairs B us) (m : M) (hl : (held B us).length < 200000) (hW : Below w.heap.size w W)
    (h1 : ∀ i, i < us.length → (!ltM m (us.getD i default).foot) = false) :
    Calls Tryz.prog 136 #[.pointer (some ⟨rb, 0, none⟩), m.val] W fun e w' => e = .returned (.tuple #[]) ∧ ∃ B1 bv1, RungsRes W rb most bv av us w' B1 us bv1 av ∧ Stairs B1 us ∧ (held B1 us).Perm (m :: held B us) ∧ B1.length = B.length + 1 := by
  have hr := h.below hW
  have hbl := held_len B us
  have hX : ∀ x ∈ us, ltM m x.foot = true := fun x hx => by
    obtain ⟨i, hi, e⟩ := getD_in (Y := []) hx
    rw [List.append_nil] at e
    have := h1 i hi
    rw [e] at this
    simpa using this
  refine (badd_any hr.row hr.c0 hr.bot (fun e => hr.msg_rb hr.bot e.own rfl) hS.bot m (by omega)).mono ?_
  rintro e w' ⟨he, p, hp, hres⟩
  obtain ⟨bv1, hres'⟩ := hr.setBot hres
  obtain ⟨s1, s2⟩ := hS.putBot hX hp
  exact ⟨he, _, bv1, hres', s1, s2, ins_len B p hp.1 m⟩

set_option maxHeartbeats 8000000 in
set_option maxRecDepth 100000 in
theorem put_any {w : World} {rb : Nat} {most : Int} {bv av : Value} {B : List M} {us : List Up} (h : RungsOf w rb most bv B av us) (hS : Stairs B us) (m : M) (hU : Unlike (m :: held B us)) (hm1 : 1 ≤ most) (hl : (held B us).length < 200000) :
    Calls Tryz.prog 129 #[.pointer (some ⟨rb, 0, none⟩), m.val] w fun e w' => e = .returned (.tuple #[]) ∧ Spilt w rb most bv av us B (m :: held B us) w' := by
  have mixed := mixed
  have hrl := held_rungs (B := B) hS.up.full
  have hbl := held_len B us
  have hrbl := h.rlt
  obtain ⟨A, hA⟩ : ∃ A, A = w.heap.size := ⟨_, rfl⟩
  obtain ⟨W1, hW1⟩ : ∃ W1, W1 = w.alloc (.cells #[.pointer (some ⟨rb, 0, none⟩)] 92) := ⟨_, rfl⟩
  have s1 : W1.heap.size = A + 1 := by rw [hW1, hA]; simp
  obtain ⟨W2, hW2⟩ : ∃ W2, W2 = W1.alloc (.cells m.cells 34) := ⟨_, rfl⟩
  have hb1 : Below w.heap.size w W1 := by rw [hW1]; exact (Below.refl _ w).alloc (Nat.le_refl _) _
  have hb2 : Below w.heap.size w W2 := by rw [hW2]; exact hb1.alloc hb1.size _
  have hs2 : W2.heap.size = A + 2 := by rw [hW2]; simp [s1]
  have hbx : BoxM W2 (A + 1) m := by rw [hW2, ← s1]; exact BoxM.mk W1 m
  have hax : W2.heap[A]? = some (.cells #[.pointer (some ⟨rb, 0, none⟩)] 92 (0, 0)) := by
    rw [hW2, Below.heap_alloc W1 _ A (by omega), hW1, hA]
    exact heap_alloc_new w _
  have hread : ∀ W, Below W2.heap.size W2 W → W.cell? ⟨A, 0, none⟩ = some (.pointer (some ⟨rb, 0, none⟩)) ∧ MsgAt W (A + 1) 0 m ∧ RungsOf W rb most bv B av us := by
    intro W hW
    have hA' : W.heap[A]? = some (.cells #[.pointer (some ⟨rb, 0, none⟩)] 92 (0, 0)) := (hW.block A (by omega)).trans hax
    have hB' : BoxM W (A + 1) m := (hW.block (A + 1) (by omega)).trans hbx
    exact ⟨by simp [World.cell?, hA'], hB'.at, h.below (hb2.trans (hW.mono hb2.size))⟩
  have hsr : Calls Tryz.prog 110 #[.int .i64 us.length, .func (.func 134) #[] #[.pointer (some ⟨A + 1, 0, none⟩), .pointer (some ⟨A, 0, none⟩)]] W2 fun e w' => ∃ p : Nat, e = .returned (.int .i64 p) ∧ Hid (Below W2.heap.size W2 w') ∧ p ≤ us.length ∧ Hid (∀ i, i < p → (!ltM m (us.getD i default).foot) = false) ∧ Hid (∀ i, p ≤ i → i < us.length → (!ltM m (us.getD i default).foot) = true) := by
    refine (find_lput1 us.length (by omega) (fun i => !ltM m (us.getD i default).foot) _ _ (fun k hk W hW => ?_) (foot_mono hS.up m)).mono ?_
    · obtain ⟨p1, p2, p3⟩ := hread W hW.below
      obtain ⟨ag, aoff, acap, he, hRU⟩ := AtU.form p3.abv (by omega)
      have c2 := p3.c2
      rw [he] at c2
      exact lput1_any m p1 c2 p2 hRU k hk
    · rintro e w' ⟨p, he, hr, h0, h1, h2⟩
      exact ⟨p, he, hr.below, h0, h1, h2⟩
  have hup : Hid (∀ p W, p < us.length → Hid (∀ i, i < p → (!ltM m (us.getD i default).foot) = false) → Hid (∀ i, p ≤ i → i < us.length → (!ltM m (us.getD i default).foot) = true) → Below W2.heap.size W2 W →
      ∃ ag aoff acap : Nat, av = .slice (some ⟨ag, aoff, none⟩) us.length acap ∧ Calls Tryz.prog 135 #[.pointer (some ⟨ag, aoff + p * 8, none⟩), m.val] W fun e w' => e = .returned (.tuple #[]) ∧ Hid (Spilt w rb most bv av us B (m :: held B us) w')) :=
    fun p W hp h1 h2 hW => putUp_any h hS m hl (hb2.trans (hW.mono hb2.size)) hp h1.out (h2.out p (Nat.le_refl _) hp)
  have hbot : Hid (∀ W, Hid (∀ i, i < us.length → (!ltM m (us.getD i default).foot) = false) → Below W2.heap.size W2 W → Calls Tryz.prog 136 #[.pointer (some ⟨rb, 0, none⟩), m.val] W fun e w' => e = .returned (.tuple #[]) ∧
      ∃ n c a, w'.cell? ⟨A, 0, none⟩ = some (.pointer (some ⟨rb, 0, none⟩)) ∧ w'.cell? ⟨rb, 0, none⟩ = some (.slice a n c) ∧ w'.cell? ⟨rb, 1, none⟩ = some (.int .i64 most) ∧ Hid (∀ w5, Below w'.heap.size w' w5 → Spilt w rb most bv av us B (m :: held B us) w5) ∧
        Hid ((most < (n : Int)) → ∀ w5, Below w'.heap.size w' w5 → Calls Tryz.prog 137 #[.pointer (some ⟨rb, 0, none⟩)] w5 fun e w6 => e = .returned (.tuple #[]) ∧ Hid (Spilt w rb most bv av us B (m :: held B us) w6))) := by
    intro W h1 hW
    have hbW := hb2.trans (hW.mono hb2.size)
    refine (putBot_any h hS m hl hbW h1.out).mono ?_
    rintro e w' ⟨he, B1, bv1, hres, s1', s2', hlen⟩
    obtain ⟨p1, -, -⟩ := hread W hW
    have h' := hres.1
    obtain ⟨a, c, e1, -⟩ := RowAt.shape h'.bot
    have c0 := h'.c0
    rw [e1] at c0
    have hAW : A < W.heap.size := by have := hW.size; omega
    have hcA : w'.cell? ⟨A, 0, none⟩ = some (.pointer (some ⟨rb, 0, none⟩)) := by
      have : w'.heap[A]? = W.heap[A]? := hres.2.1.block A hAW (fun e => by have := h.own_lt e; omega)
      rw [← p1]
      simp [World.cell?, this]
    refine ⟨he, B1.length, c, a, hcA, c0, h'.c1, ?_, ?_⟩
    · intro w5 hb5
      exact ⟨_, _, _, _, (RungsRes.from_below hbW hres).then_below hb5, s1', s2'⟩
    · intro hmost w5 hb5
      have hU1 : Unlike B1 := by
        have : Unlike (held B1 us) := hU.perm s2'.symm
        exact (List.pairwise_append.1 this).1
      have hlen2 := s2'.length_eq
      rw [List.length_cons] at hlen2
      refine (spill_any (h'.below hb5) s1' hU1 (by omega) (by omega)).mono ?_
      rintro e w6 ⟨he, B', us', bv', av', hr6, s3, s4⟩
      exact ⟨he, B', us', bv', av', ((RungsRes.from_below hbW hres).then_below hb5).trans hr6, s3, s4.trans s2'⟩
  obtain ⟨aa, acap, hav, -⟩ := RowAt.shape h.abv
  have hboxc : Hid (∀ W, Below W2.heap.size W2 W → A + 1 < W.heap.size ∧ A < W.heap.size ∧ rb < W.heap.size ∧ W.cell? ⟨A, 0, none⟩ = some (.pointer (some ⟨rb, 0, none⟩)) ∧ W.cell? ⟨rb, 2, none⟩ = some (.slice aa us.length acap) ∧ MsgAt W (A + 1) 0 m) := by
    intro W hW
    obtain ⟨p1, p2, p3⟩ := hread W hW
    have c2 := p3.c2
    rw [hav] at c2
    have := hW.size
    exact ⟨by omega, by omega, by omega, p1, c2, p2⟩
  have hsr' := Lib.hid hsr
  have hW1' := Lib.hid hW1
  have hW2' := Lib.hid hW2
  have hA' := Lib.hid hA
  have hav' := Lib.hid hav
  obtain ⟨-, -, -, cA, c2, -⟩ := hboxc.out W2 (Below.refl _ _)
  clear hsr hW1 hW2 hA hread hax hbx hb1 hb2 hs2 s1 h hS hU hl hrl hbl hrbl hav
  generalize Spilt w rb most bv av us B (m :: held B us) = R at *
  obtain ⟨⟨mt, f, s⟩, tt, vv, u, an⟩ := m
  simp only [M.val, M.cells] at hW2' hup hbot ⊢
  go_enter Tryz.func129, Tryz.ntmps129
  go_upto_region 1 with (fail)
  rw [show w.alloc (.cells #[.pointer (some ⟨rb, 0, none⟩)] 92) = W1 from hW1'.out.symm, ← hA'.out, ← hW2'.out]
  go_upto_region 2 with (go_at_call 110; refine hsr'.out.mono ?_; rintro e w3 ⟨p, rfl, hb3, hpl, hlow, hhigh⟩)
  obtain ⟨l1, l0, lr, cA3, c23, hm3⟩ := hboxc.out w3 hb3.out
  clear cA c2
  by_cases hp : p < us.length
  · have hpI : (p : Int) < (us.length : Int) := by omega
    obtain ⟨ag, aoff, acap1, hav1, -⟩ := hup.out p w3 hp hlow hhigh hb3.out
    obtain ⟨rfl, rfl⟩ : aa = some ⟨ag, aoff, none⟩ ∧ acap = acap1 := by
      have := hav'.out.symm.trans hav1
      simpa using this
    have hpI2 : (p : Int) < (us.length : Int) ∧ 0 ≤ (p : Int) := by omega
    go_upto_region 3 with (fail)
    obtain ⟨-, y0, y1, y2, y3, y4, y5, y6⟩ := hm3
    simp only [Nat.zero_add] at y0 y1 y2 y3 y4 y5 y6
    have z0 := fun q => wide_cell (w := w3) q l1 y0
    have z1 := fun q => wide_cell (w := w3) q l1 y1
    have z2 := fun q => wide_cell (w := w3) q l1 y2
    have z3 := fun q => wide_cell (w := w3) q l1 y3
    have z4 := fun q => wide_cell (w := w3) q l1 y4
    have z5 := fun q => wide_cell (w := w3) q l1 y5
    have z6 := fun q => wide_cell (w := w3) q l1 y6
    have e0 := fun q => wide_cell (w := w3) q l0 cA3
    have e2 := fun q => wide_cell (w := w3) q lr c23
    clear y0 y1 y2 y3 y4 y5 y6 cA3 c23
    refine wp_region_wide_tail 8 (by kernel_rfl) (by kernel_rfl) ?_
    simp only [List.take_succ_cons, List.take_zero, List.drop_succ_cons, List.drop_zero]
    repeat (quiet_step (fail))
    refine wpQuiet_nil ?_
    refine wide_all fun W3 hb4 => ?_
    clear e0 e2 z0 z1 z2 z3 z4 z5 z6
    obtain ⟨ag2, aoff2, acap2, hav2, hcall⟩ := hup.out p W3 hp hlow hhigh (hb3.out.trans (hb4.mono hb3.out.size))
    obtain ⟨⟨rfl, rfl⟩, rfl⟩ : (ag = ag2 ∧ aoff = aoff2) ∧ acap = acap2 := by
      have := hav'.out.symm.trans hav2
      simpa using this
    have hcall' := Lib.hid hcall
    clear hcall hav2 hav1
    go_wp2_with (go_at_call 135; refine hcall'.out.mono ?_; rintro e w4 ⟨rfl, hR⟩)
    (try simp only [Exit.inBlock, Exit.then])
    refine bodyPost_ret (results_none rfl _ _ _) rfl ?_
    exact ⟨rfl, hR.out⟩
  · have hpI : ¬ (p : Int) < (us.length : Int) := by omega
    go_upto_region 4 with (fail)
    obtain ⟨-, y0, y1, y2, y3, y4, y5, y6⟩ := hm3
    simp only [Nat.zero_add] at y0 y1 y2 y3 y4 y5 y6
    have z0 := fun q => wide_cell (w := w3) q l1 y0
    have z1 := fun q => wide_cell (w := w3) q l1 y1
    have z2 := fun q => wide_cell (w := w3) q l1 y2
    have z3 := fun q => wide_cell (w := w3) q l1 y3
    have z4 := fun q => wide_cell (w := w3) q l1 y4
    have z5 := fun q => wide_cell (w := w3) q l1 y5
    have z6 := fun q => wide_cell (w := w3) q l1 y6
    have e0 := fun q => wide_cell (w := w3) q l0 cA3
    clear y0 y1 y2 y3 y4 y5 y6 cA3 c23
    refine wp_region_wide_tail 4 (by kernel_rfl) (by kernel_rfl) ?_
    simp only [List.take_succ_cons, List.take_zero, List.drop_succ_cons, List.drop_zero]
    repeat (quiet_step (fail))
    refine wpQuiet_nil ?_
    refine wide_all fun W3 hb4 => ?_
    clear e0 z0 z1 z2 z3 z4 z5 z6
    have hlow' : Hid (∀ i, i < us.length → (!ltM ⟨⟨mt, f, s⟩, tt, vv, u, an⟩ (us.getD i default).foot) = false) := fun i hi => hlow.out i (by omega)
    have hcall' := Lib.hid (hbot.out W3 hlow' (hb3.out.trans (hb4.mono hb3.out.size)))
    go_upto_region 5 with (go_at_call 136; refine hcall'.out.mono ?_; rintro e w4 ⟨rfl, n4, k4, a4, cA4, c04, c14, hdone, hmore⟩)
    clear hcall' hup hbot hboxc hsr'
    have hs4 := fun (w' : World) (h : w'.cell? ⟨rb, 0, none⟩ = some (.slice a4 n4 k4)) => rsize_any h
    have hd := (Below.refl w4.heap.size w4).drew
    go_region_held3 (fun w' => w'.cell? ⟨A, 0, none⟩ = some (.pointer (some ⟨rb, 0, none⟩)) ∧ w'.cell? ⟨rb, 0, none⟩ = some (.slice a4 n4 k4) ∧ w'.cell? ⟨rb, 1, none⟩ = some (.int .i64 most))
      (first | exact ⟨cA4, c04, c14⟩)
      (first | (go_at_call 132; refine (hs4 w4.drew c04).mono ?_; rintro e w1 ⟨rfl, rfl⟩))
    by_cases hm : most < (n4 : Int)
    · have hc5 := Lib.hid (hmore.out hm _ hd)
      go_wp2_with (go_at_call 137; refine hc5.out.mono ?_; rintro e w6 ⟨rfl, hR⟩)
      go_end0
      exact ⟨rfl, hR.out⟩
    · go_wp2
      go_end0
      exact ⟨rfl, hdone.out _ hd⟩
end Go.Proofs.YtjlbkdghlijoeaaGreat
