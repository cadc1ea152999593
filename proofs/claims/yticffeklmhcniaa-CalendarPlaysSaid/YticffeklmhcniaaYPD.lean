
/-
  The document's own calendar: Push.
-/
import Derived.Test.YticffeklmhcniaaYPC
import Derived.Deep.RegionWith
namespace Go.Proofs.Yticffeklmhcniaa
open Go.ChangeShapes Go.WideShapes Go.ChangeAt Go.Shelf Go.RowKit Go.Lib Go.Sort Go.Deep Go.Maps
set_option linter.unusedVariables false

/-- A slice that is nil, or lies plainly in a block. -/
def PlainA (a : Option Addr) (cap : Nat) : Prop := (a = none ∧ cap = 0) ∨ ∃ b off, a = some ⟨b, off, none⟩
/-- What an Insert leaves. -/
def Inserted (W : World) (L : List M) (m : M) (g c : Nat) (w1 : World) : Prop := W.heap.size ≤ g ∧ Msgs w1 (some ⟨g, 0, none⟩) (L.length + 1) c (mg ltM L [m]) ∧ Below W.heap.size W w1
theorem rInsert_all {W : World} {a : Option Addr} {cap : Nat} {L : List M} {m : M} (h : Msgs W a L.length cap L) (hp : PlainA a cap) (hO : InOrder ltM L) (hm : m.fits) (hl : L.length ≤ 16384) :
    Calls Try.prog 37 #[.slice a L.length cap, m.val] W fun e w1 => ∃ g c : Nat, e = .returned (.slice (some ⟨g, 0, none⟩) (L.length + 1) c) ∧ Hid (Inserted W L m g c w1) := by
  have hf : ∀ x ∈ mg ltM L [m], x.fits := fun x hx => by
    have := (mg_perm (lt := ltM) L [m]).mem_iff.1 hx
    rcases List.mem_append.1 this with h1 | h1
    · exact h.2.2.2.1 x h1
    · rw [List.mem_singleton.1 h1]; exact hm
  have key : ∀ (v : Value) (w1 : World) (base : Nat), W.heap.size ≤ base → w1.ownsRow base 34 7 v (L.length + 1) (flat (mg ltM L [m])) → Below W.heap.size W w1 →
      ∃ g c : Nat, v = .slice (some ⟨g, 0, none⟩) (L.length + 1) c ∧ Hid (Inserted W L m g c w1) := by
    intro v w1 base hb ho hB
    obtain ⟨g, c, rfl, hg, _⟩ := ho.form (by omega)
    obtain ⟨a', c', e, hM⟩ := msgs_of_own ho hf
    cases e
    exact ⟨g, c, rfl, by omega, hM, hB⟩
  rcases hp with ⟨rfl, rfl⟩ | ⟨b, off, rfl⟩
  · have hL : L = [] := List.eq_nil_of_length_eq_zero (by have := h.2.1; omega)
    subst hL
    refine (rInsertF_nil m W).mono ?_
    rintro e w1 ⟨v, rfl, hq⟩
    obtain ⟨⟨base, hb, ho⟩, hB⟩ := hq.out
    obtain ⟨g, c, e, hh⟩ := key v w1 base hb (by rw [mg_nil_left]; exact ho) hB
    exact ⟨g, c, by rw [e], hh⟩
  · by_cases h0 : L.length = 0
    · have hL : L = [] := List.eq_nil_of_length_eq_zero h0
      subst hL
      refine (rInsertF_empty m W b off cap (by have := h.2.2.1; unfold maxLen at this; omega)).mono ?_
      rintro e w1 ⟨v, rfl, hq⟩
      obtain ⟨⟨base, hb, ho⟩, hB⟩ := hq.out
      obtain ⟨g, c, e, hh⟩ := key v w1 base hb (by rw [mg_nil_left]; exact ho) hB
      exact ⟨g, c, by rw [e], hh⟩
    · refine (rInsertF_some h (by omega) hO (by omega)).mono ?_
      rintro e w1 ⟨v, rfl, hq⟩
      obtain ⟨⟨base, hb, ho⟩, hB⟩ := hq.out
      obtain ⟨g, c, e, hh⟩ := key v w1 base hb ho hB
      exact ⟨g, c, by rw [e], hh⟩

/-- What a Push leaves of the document's queue. -/
def RPushed (w : World) (rb : Nat) (a : Option Addr) (L : List M) (m : M) (w' : World) : Prop := ∃ a' cap', DocAt w' rb a' cap' (pushT L m) ∧ KeptOff (fun k => k = rb) w w' ∧ PlainA a' cap' ∧ ((pushT L m = L ∧ a' = a) ∨ ∃ g, a' = some ⟨g, 0, none⟩ ∧ w.heap.size ≤ g)
theorem rPush_stay {w w' : World} {rb cap : Nat} {a : Option Addr} {L : List M} {m : M} (h : DocAt w rb a cap L) (hp : PlainA a cap) (hb : Below w.heap.size w w') (hs : pushT L m = L) : RPushed w rb a L m w' :=
  ⟨a, cap, by rw [hs]; exact h.below hb, .of_below hb, hp, .inl ⟨hs, rfl⟩⟩

set_option maxHeartbeats 4000000 in
set_option maxRecDepth 100000 in
theorem rPush_any {w : World} {rb cap : Nat} {a : Option Addr} {L : List M} {m : M} (h : DocAt w rb a cap L) (hp : PlainA a cap) (hO : InOrder ltM L) (hm : m.fits) (hl : L.length ≤ 16384) :
    Calls Try.prog 21 #[.pointer (some ⟨rb, 0, none⟩), m.val] w fun e w' => e = .returned (.int .i64 (pushC L m)) ∧ RPushed w rb a L m w' := by
  have mixed := mixed
  have hB0 : Hid (Below w.heap.size w (w.alloc (.cells m.cells 34))) := (Below.refl _ w).alloc (Nat.le_refl _) _
  have hx0 : Hid (BoxM (w.alloc (.cells m.cells 34)) w.heap.size m) := BoxM.mk w m
  have hst := Lib.hid (fun (w' : World) (hb : Below w.heap.size w w') (hs : pushT L m = L) => rPush_stay h hp hb hs)
  have h0 := Lib.hid (h.below hB0.out)
  have hrl := h.lt
  have hins := Lib.hid (fun (W : World) (hM : Msgs W a L.length cap L) => rInsert_all hM hp hO hm hl)
  clear h
  simp only [M.val, M.cells] at hB0 hx0 h0 hins ⊢
  go_enter Try.func21, Try.ntmps21
  go_upto_region 1 with (fail)
  generalize w.alloc (.cells #[.int .i64 m.k.t, .int .i64 m.k.f, .int .i64 m.k.s, .int .i64 m.to, .int .i64 m.v, .int .i64 m.u, .bool m.anti] 34) = W0 at hB0 hx0 h0 ⊢
  obtain ⟨-, y0, y1, y2, y3, y4, y5, y6⟩ := hx0.out.at
  simp only [Nat.zero_add] at y0 y1 y2 y3 y4 y5 y6
  have hf := rfind_any h0.out m.k.f m.u
  by_cases hs : hasS L m.k.f m.u = true
  · have hf' : Hid (Calls Try.prog 36 #[.pointer (some ⟨rb, 0, none⟩), .int .i64 m.k.f, .int .i64 m.u] W0 fun e w' => (∃ i : Int, e = .returned (.int .i64 i) ∧ 0 ≤ i) ∧ W0 = w') := by
      refine hf.mono ?_
      rintro e w' ⟨⟨i, he, hF⟩, hw⟩
      refine ⟨⟨i, he, ?_⟩, hw⟩
      rcases hF with ⟨_, h2⟩ | ⟨k, _, rfl, _⟩
      · rw [hs] at h2; cases h2
      · omega
    have e1 : Hid (pushC L m = 8 ∧ pushT L m = L) := ⟨by unfold pushC; rw [if_pos hs], by unfold pushT; rw [if_pos hs]⟩
    clear hf hs
    go_wp2_with (go_at_call 36; refine hf'.out.mono ?_; rintro e w' ⟨⟨i, rfl, hi⟩, rfl⟩)
    go_ret
    exact ⟨by rw [e1.out.1]; rfl, hst.out _ hB0.out e1.out.2⟩
  · have hf' : Hid (Calls Try.prog 36 #[.pointer (some ⟨rb, 0, none⟩), .int .i64 m.k.f, .int .i64 m.u] W0 fun e w' => e = .returned (.int .i64 (-1)) ∧ W0 = w') := by
      refine hf.mono ?_
      rintro e w' ⟨⟨i, he, hF⟩, hw⟩
      refine ⟨?_, hw⟩
      rcases hF with ⟨rfl, h2⟩ | ⟨k, hk, rfl, h1, h2⟩
      · exact he
      · exact absurd (hasS_iff.2 ⟨L[k], List.getElem_mem hk, h1, h2⟩) hs
    have hcell := h0.out.c0
    by_cases hfull : 16384 ≤ L.length
    · have e1 : Hid (pushC L m = 9 ∧ pushT L m = L) := ⟨by unfold pushC; rw [if_neg hs, if_pos hfull], by unfold pushT; rw [if_neg hs, if_pos hfull]⟩
      clear hf hs hl hins
      generalize L.length = N at hcell hfull
      have hz : (16384 : Int) ≤ (N : Int) := by omega
      go_wp2_with (go_at_call 36; refine hf'.out.mono ?_; rintro e w' ⟨rfl, rfl⟩)
      go_ret
      exact ⟨by rw [e1.out.1]; rfl, hst.out _ hB0.out e1.out.2⟩
    · have e1 : Hid (pushC L m = 0 ∧ pushT L m = mg ltM L [m]) := ⟨by unfold pushC; rw [if_neg hs, if_neg hfull], by unfold pushT; rw [if_neg hs, if_neg hfull]⟩
      have hlen2 : Hid ((mg ltM L [m]).length = L.length + 1) := by show _ = _; rw [mg_length]; rfl
      have hS : ∀ w', Below W0.heap.size W0 w' → w'.cell? ⟨rb, 0, none⟩ = some (.slice a L.length cap) ∧ w'.frozen? ⟨rb, 0, none⟩ = false ∧ w'.cell? ⟨w.heap.size, 0, none⟩ = some (.int .i64 m.k.t) ∧ w'.cell? ⟨w.heap.size, 1, none⟩ = some (.int .i64 m.k.f) ∧ w'.cell? ⟨w.heap.size, 2, none⟩ = some (.int .i64 m.k.s) ∧ w'.cell? ⟨w.heap.size, 3, none⟩ = some (.int .i64 m.to) ∧ w'.cell? ⟨w.heap.size, 4, none⟩ = some (.int .i64 m.v) ∧ w'.cell? ⟨w.heap.size, 5, none⟩ = some (.int .i64 m.u) ∧ w'.cell? ⟨w.heap.size, 6, none⟩ = some (.bool m.anti) ∧ Below W0.heap.size W0 w' := fun w' hb => by
        have hd := h0.out.below hb
        obtain ⟨-, z0, z1, z2, z3, z4, z5, z6⟩ := (hx0.out.kept (S := fun _ => False) (.of_below hb) (fun e => e)).at
        simp only [Nat.zero_add] at z0 z1 z2 z3 z4 z5 z6
        exact ⟨hd.c0, frozen_of_block (o := 0) hd.1, z0, z1, z2, z3, z4, z5, z6, hb⟩
      have hin2 := fun w' (hb : Below W0.heap.size W0 w') => hins.out w' (h0.out.below hb).2
      clear hf hs hl hins
      have hlN : ¬ (16384 : Int) ≤ (L.length : Int) := by omega
      go_upto_region 5 with (go_at_call 36; refine hf'.out.mono ?_; rintro e w' ⟨rfl, rfl⟩)
      have hfin : Hid (∀ w1 g c, Below W0.heap.size W0 w1 → W0.heap.size ≤ g → Msgs w1 (some ⟨g, 0, none⟩) (L.length + 1) c (mg ltM L [m]) → RPushed w rb a L m (w1.setCell ⟨rb, 0, none⟩ (.slice (some ⟨g, 0, none⟩) (L.length + 1) c))) := by
        intro w1 g c hb hg hM
        have hd := (h0.out.below hb).1
        have hk := KeptOff.set w1 ⟨rb, 0, none⟩ (.slice (some ⟨g, 0, none⟩) (L.length + 1) c)
        have hs := hB0.out.size
        refine ⟨some ⟨g, 0, none⟩, c, ⟨?_, ?_⟩, (KeptOff.of_below (S := fun k => k = rb) (hB0.out.trans (hb.mono hs))).trans hk, .inr ⟨_, _, rfl⟩, .inr ⟨g, rfl, by omega⟩⟩
        · rw [e1.out.2, hlen2.out]
          simp [World.setCell, Array.getElem?_modify, hd]
        · rw [e1.out.2, hlen2.out]
          exact hM.kept hk (.inr ⟨g, 0, rfl, by simp only; omega⟩)
      clear hf' hst
      go_region_with (go_at_call 37; refine (hin2 _ (Below.refl _ W0).drew).mono ?_; rintro e w1 ⟨g, c, rfl, hq⟩; have hb1 : Below W0.heap.size W0 w1 := Below.trans (Below.refl _ W0).drew (by exact hq.out.2.2); have hS1 := hS w1 hb1; obtain ⟨c5, f5, -⟩ := hS1; have hb1' := Lib.hid hb1; clear hb1)
      all_goals
        have hR := Lib.hid (hfin.out w1 g c hb1'.out hq.out.1 hq.out.2.1)
        clear c5 f5 hcell y0 y1 y2 y3 y4 y5 y6 hq hb1' hin2 hS
        generalize w1.setCell ⟨rb, 0, none⟩ (.slice (some ⟨g, 0, none⟩) (L.length + 1) c) = w5 at hR ⊢
        go_wp2
        go_ret
        exact ⟨by rw [e1.out.1]; rfl, hR.out⟩
end Go.Proofs.Yticffeklmhcniaa
