/-
  The document's Insert at an empty list that is not nil.
  The document's own queue: Push.
  The document's own queue: Cut.
-/
import Derived.Test.YtjlbkdghlijoeaaGreatPRI
import Derived.Test.YtjlbkdghlijoeaaGreatPRB
import Derived.Deep.RegionWith
namespace Go.Proofs.YtjlbkdghlijoeaaGreat
open Go.ChangeShapes Go.WideShapes Go.ChangeAt Go.Shelf Go.RowKit Go.Lib Go.Sort Go.Deep Go.Maps
set_option linter.unusedVariables false

set_option maxRecDepth 100000 in
set_option maxHeartbeats 4000000 in
theorem rInsertF_empty (m : M) (w : World) (b off cap : Nat) (hcap : cap ≤ 9223372036854775807) :
    Calls Tryz.prog 33 #[.slice (some ⟨b, off, none⟩) 0 cap, m.val] w fun e w' => ∃ v, e = .returned v ∧ Aside ((∃ base, w.heap.size ≤ base ∧ w'.ownsRow base 34 7 v 1 (flat [m])) ∧ Below w.heap.size w w') := by
  have mixed := mixed
  obtain ⟨i0, hi, hz0, hz1, hz2⟩ := info_parts infoM
  have hbW : Hid (Below w.heap.size w (w.alloc (.cells m.cells 34))) := (Below.refl _ w).alloc (Nat.le_refl _) _
  have hm0 := Lib.hid (MsgAt.mk w m)
  obtain ⟨⟨mt, mf, ms⟩, mto, mv, mu, man⟩ := m
  simp only [M.val, M.cells] at hbW hm0 ⊢
  go_enter Tryz.func33, Tryz.ntmps33
  go_wp2
  generalize w.alloc (.cells #[.int .i64 mt, .int .i64 mf, .int .i64 ms, .int .i64 mto, .int .i64 mv, .int .i64 mu, .bool man] 34) = W0 at hbW hm0 ⊢
  generalize w.heap.size = B at hm0 ⊢
  obtain ⟨m, hm⟩ : ∃ m : M, m = ⟨⟨mt, mf, ms⟩, mto, mv, mu, man⟩ := ⟨_, rfl⟩
  have hm' := Lib.hid hm
  rw [← hm] at hm0
  clear hm
  refine wp_loop_rounds 1 ?_
  rw [rounds_succ]
  go_wp2_with fail
  refine wp_region_quiet_grown (by assumption) (by kernel_rfl) ?_
  repeat (first | go_big_quiet_step (fail) | quiet_step (fail))
  refine wpQuiet_nil ?_
  intro _ hw'
  obtain ⟨⟨nq, osq⟩, hw''⟩ := hw'
  subst hw''
  have hr1 : Read W0 (grow (W0.drewN nq) osq) := ⟨_, _, rfl⟩
  generalize grow (W0.drewN nq) osq = W1 at hr1 ⊢
  have hsz1 := hr1.size
  have hb4 : Hid (Below W0.heap.size W0 (W1.alloc (.cells #[] 34))) := hr1.below.alloc hsz1 _
  have hm4 := hm0.out.keep hb4.out
  obtain ⟨-, y0, y1, y2, y3, y4, y5, y6⟩ := hm4
  simp only [Nat.zero_add] at y0 y1 y2 y3 y4 y5 y6
  have hown4 : Hid ((W1.alloc (.cells #[] 34)).ownsRow W0.heap.size 34 7 (.slice (some ⟨W1.heap.size, 0, none⟩) 0 0) 0 []) := World.ownsRow_made W1 #[] 0 hsz1 (Nat.zero_le _) (by simp)
  have hsz4 := hb4.out.size
  go_upto_region 5 with (at_builtin; refine wpM rfl (.tmp 22) (.tmp 25) rfl W0.heap.size _ 0 [] rfl hown4.out ⟨b, off, none⟩ 0 cap [] rfl rfl ?p0 ?p1 ?p2 ?_)
  case p0 => intro j u hj; simp [flat] at hj
  case p1 => omega
  case p2 => exact hsz4
  intro v4 w4 hown4b hgrow4
  have hb4b : Hid (Below W0.heap.size W0 w4) := hb4.out.grown hgrow4.out hsz4 (fun k hk => (hown4.out.lt k hk).1)
  have hown4b' := Lib.hid hown4b
  have hm4b := hm0.out.keep hb4b.out
  clear y0 y1 y2 y3 y4 y5 y6 hb4 hown4 hgrow4 hown4b
  obtain ⟨-, y0, y1, y2, y3, y4, y5, y6⟩ := hm4b
  simp only [Nat.zero_add] at y0 y1 y2 y3 y4 y5 y6
  have hsz5 := hb4b.out.size
  go_wp2_with (at_builtin; refine wpM rfl (.tmp 27) (.tmp 29) rfl W0.heap.size _ 0 [] rfl (hown4b'.out.alloc _) ⟨w4.heap.size, 0, none⟩ 1 1 [m] rfl rfl ?p3 ?p4 ?p5 ?_)
  case p3 => exact World.news_of_block (cs := m.cells) (t := 34) (fr := (0, 0)) (heap_alloc_new w4 _)
  case p4 => omega
  case p5 => simp; omega
  intro v2 w5 hown5 hgrow5
  have hown5' : Hid (w5.ownsRow W0.heap.size 34 7 v2 1 (flat [m])) := by
    have := hown5
    first | exact this | (simp only [Nat.zero_add, List.nil_append] at this; exact this)
  have hb5 : Hid (Below W0.heap.size W0 w5) := (hb4b.out.alloc (by omega) _).grown hgrow5.out (by simp; omega) (fun k hk => (hown4b'.out.lt k hk).1)
  clear hown5 hgrow5 y0 y1 y2 y3 y4 y5 y6
  have hsz6 := hb5.out.size
  go_wp2_with (at_builtin; refine wpM rfl (.tmp 31) (.tmp 34) rfl W0.heap.size _ 1 (flat [m]) rfl hown5'.out ⟨b, off, none⟩ 0 cap [] rfl rfl ?p6 ?p7 ?p8 ?_)
  case p6 => intro j u hj; simp [flat] at hj
  case p7 => omega
  case p8 => exact hsz6
  intro v6 w6 hown6 hgrow6
  have hown6' : Hid (w6.ownsRow W0.heap.size 34 7 v6 1 (flat [m])) := by
    have e : flat [m] ++ flat [] = flat [m] := by simp [flat]
    rw [e] at hown6
    exact hown6
  have hb6 : Hid (Below W0.heap.size W0 w6) := hb5.out.grown hgrow6.out hsz6 (fun k hk => (hown5'.out.lt k hk).1)
  clear hown6 hgrow6
  go_wp2
  go_ret
  refine ⟨_, rfl, ⟨W0.heap.size, hbW.out.size, ?_⟩, hbW.out.trans (hb6.out.mono hbW.out.size)⟩
  have := hown6'.out
  rw [← hm'.out]
  exact this
end Go.Proofs.YtjlbkdghlijoeaaGreat
namespace Go.Proofs.YtjlbkdghlijoeaaGreat
open Go.ChangeShapes Go.WideShapes Go.ChangeAt Go.Shelf Go.RowKit Go.Lib Go.Sort Go.Deep Go.Maps
set_option linter.unusedVariables false

/-- A slice that is nil, or lies plainly in a block. -/
def PlainA (a : Option Addr) (cap : Nat) : Prop := (a = none ∧ cap = 0) ∨ ∃ b off, a = some ⟨b, off, none⟩
/-- What an Insert leaves. -/
def Inserted (W : World) (L : List M) (m : M) (g c : Nat) (w1 : World) : Prop := W.heap.size ≤ g ∧ Msgs w1 (some ⟨g, 0, none⟩) (L.length + 1) c (mg ltM L [m]) ∧ Below W.heap.size W w1
theorem rInsert_all {W : World} {a : Option Addr} {cap : Nat} {L : List M} {m : M} (h : Msgs W a L.length cap L) (hp : PlainA a cap) (hO : InOrder ltM L) (hm : m.fits) (hl : L.length ≤ 16384) :
    Calls Tryz.prog 33 #[.slice a L.length cap, m.val] W fun e w1 => ∃ g c : Nat, e = .returned (.slice (some ⟨g, 0, none⟩) (L.length + 1) c) ∧ Hid (Inserted W L m g c w1) := by
  have hf : ∀ x ∈ mg ltM L [m], x.fits := fun x hx => by
    have := (mg_perm (lt := ltM) L [m]).mem_iff.1 hx
    rcases List.mem_append.1 this with h1 | h1
    · exact h.2.2.2.1 x h1
    · rw [List.mem_singleton.1 h1]; exact hm
  have key : ∀ (v : Value) (w1 : World) (base : Nat), W.heap.size ≤ base → w1.ownsRow base 34 7 v (L.length + 1) (flat (mg ltM L [m])) → Below W.heap.size W w1 →
      ∃ g c : Nat, v = .slice (some ⟨g, 0, none⟩) (L.length + 1) c ∧ Hid (Inserted W L m g c w1) := by
    intro v w1 base hb ho hB
    obtain ⟨g, c, rfl, hg, _⟩ := ho.form (by omega)
    obtain ⟨a', c', e, hM⟩ := msgs_of_own ho hf
    cases e
    exact ⟨g, c, rfl, by omega, hM, hB⟩
  rcases hp with ⟨rfl, rfl⟩ | ⟨b, off, rfl⟩
  · have hL : L = [] := List.eq_nil_of_length_eq_zero (by have := h.2.1; omega)
    subst hL
    refine (rInsertF_nil m W).mono ?_
    rintro e w1 ⟨v, rfl, hq⟩
    obtain ⟨⟨base, hb, ho⟩, hB⟩ := hq.out
    obtain ⟨g, c, e, hh⟩ := key v w1 base hb (by rw [mg_nil_left]; exact ho) hB
    exact ⟨g, c, by rw [e], hh⟩
  · by_cases h0 : L.length = 0
    · have hL : L = [] := List.eq_nil_of_length_eq_zero h0
      subst hL
      refine (rInsertF_empty m W b off cap (by have := h.2.2.1; unfold maxLen at this; omega)).mono ?_
      rintro e w1 ⟨v, rfl, hq⟩
      obtain ⟨⟨base, hb, ho⟩, hB⟩ := hq.out
      obtain ⟨g, c, e, hh⟩ := key v w1 base hb (by rw [mg_nil_left]; exact ho) hB
      exact ⟨g, c, by rw [e], hh⟩
    · refine (rInsertF_some h (by omega) hO (by omega)).mono ?_
      rintro e w1 ⟨v, rfl, hq⟩
      obtain ⟨⟨base, hb, ho⟩, hB⟩ := hq.out
      obtain ⟨g, c, e, hh⟩ := key v w1 base hb ho hB
      exact ⟨g, c, by rw [e], hh⟩

/-- What a Push leaves of the document's queue. -/
def RPushed (w : World) (rb : Nat) (a : Option Addr) (L : List M) (m : M) (w' : World) : Prop := ∃ a' cap', DocAt w' rb a' cap' (pushT L m) ∧ KeptOff (fun k => k = rb) w w' ∧ PlainA a' cap' ∧ ((pushT L m = L ∧ a' = a) ∨ ∃ g, a' = some ⟨g, 0, none⟩ ∧ w.heap.size ≤ g)
theorem rPush_stay {w w' : World} {rb cap : Nat} {a : Option Addr} {L : List M} {m : M} (h : DocAt w rb a cap L) (hp : PlainA a cap) (hb : Below w.heap.size w w') (hs : pushT L m = L) : RPushed w rb a L m w' :=
  ⟨a, cap, by rw [hs]; exact h.below hb, .of_below hb, hp, .inl ⟨hs, rfl⟩⟩

set_option maxHeartbeats 4000000 in
set_option maxRecDepth 100000 in
theorem rPush_any {w : World} {rb cap : Nat} {a : Option Addr} {L : List M} {m : M} (h : DocAt w rb a cap L) (hp : PlainA a cap) (hO : InOrder ltM L) (hm : m.fits) (hl : L.length ≤ 16384) :
    Calls Tryz.prog 19 #[.pointer (some ⟨rb, 0, none⟩), m.val] w fun e w' => e = .returned (.int .i64 (pushC L m)) ∧ RPushed w rb a L m w' := by
  have mixed := mixed
  have hB0 : Hid (Below w.heap.size w (w.alloc (.cells m.cells 34))) := (Below.refl _ w).alloc (Nat.le_refl _) _
  have hx0 : Hid (BoxM (w.alloc (.cells m.cells 34)) w.heap.size m) := BoxM.mk w m
  have hst := Lib.hid (fun (w' : World) (hb : Below w.heap.size w w') (hs : pushT L m = L) => rPush_stay h hp hb hs)
  have h0 := Lib.hid (h.below hB0.out)
  have hrl := h.lt
  have hins := Lib.hid (fun (W : World) (hM : Msgs W a L.length cap L) => rInsert_all hM hp hO hm hl)
  clear h
  simp only [M.val, M.cells] at hB0 hx0 h0 hins ⊢
  go_enter Tryz.func19, Tryz.ntmps19
  go_upto_region 1 with (fail)
  generalize w.alloc (.cells #[.int .i64 m.k.t, .int .i64 m.k.f, .int .i64 m.k.s, .int .i64 m.to, .int .i64 m.v, .int .i64 m.u, .bool m.anti] 34) = W0 at hB0 hx0 h0 ⊢
  obtain ⟨-, y0, y1, y2, y3, y4, y5, y6⟩ := hx0.out.at
  simp only [Nat.zero_add] at y0 y1 y2 y3 y4 y5 y6
  have hf := rfind_any h0.out m.k.f m.u
  by_cases hs : hasS L m.k.f m.u = true
  · have hf' : Hid (Calls Tryz.prog 32 #[.pointer (some ⟨rb, 0, none⟩), .int .i64 m.k.f, .int .i64 m.u] W0 fun e w' => (∃ i : Int, e = .returned (.int .i64 i) ∧ 0 ≤ i) ∧ W0 = w') := by
      refine hf.mono ?_
      rintro e w' ⟨⟨i, he, hF⟩, hw⟩
      refine ⟨⟨i, he, ?_⟩, hw⟩
      rcases hF with ⟨_, h2⟩ | ⟨k, _, rfl, _⟩
      · rw [hs] at h2; cases h2
      · omega
    have e1 : Hid (pushC L m = 8 ∧ pushT L m = L) := ⟨by unfold pushC; rw [if_pos hs], by unfold pushT; rw [if_pos hs]⟩
    clear hf hs
    go_wp2_with (go_at_call 32; refine hf'.out.mono ?_; rintro e w' ⟨⟨i, rfl, hi⟩, rfl⟩)
    go_ret
    exact ⟨by rw [e1.out.1]; rfl, hst.out _ hB0.out e1.out.2⟩
  · have hf' : Hid (Calls Tryz.prog 32 #[.pointer (some ⟨rb, 0, none⟩), .int .i64 m.k.f, .int .i64 m.u] W0 fun e w' => e = .returned (.int .i64 (-1)) ∧ W0 = w') := by
      refine hf.mono ?_
      rintro e w' ⟨⟨i, he, hF⟩, hw⟩
      refine ⟨?_, hw⟩
      rcases hF with ⟨rfl, h2⟩ | ⟨k, hk, rfl, h1, h2⟩
      · exact he
      · exact absurd (hasS_iff.2 ⟨L[k], List.getElem_mem hk, h1, h2⟩) hs
    have hcell := h0.out.c0
    by_cases hfull : 16384 ≤ L.length
    · have e1 : Hid (pushC L m = 9 ∧ pushT L m = L) := ⟨by unfold pushC; rw [if_neg hs, if_pos hfull], by unfold pushT; rw [if_neg hs, if_pos hfull]⟩
      clear hf hs hl hins
      generalize L.length = N at hcell hfull
      have hz : (16384 : Int) ≤ (N : Int) := by omega
      go_wp2_with (go_at_call 32; refine hf'.out.mono ?_; rintro e w' ⟨rfl, rfl⟩)
      go_ret
      exact ⟨by rw [e1.out.1]; rfl, hst.out _ hB0.out e1.out.2⟩
    · have e1 : Hid (pushC L m = 0 ∧ pushT L m = mg ltM L [m]) := ⟨by unfold pushC; rw [if_neg hs, if_neg hfull], by unfold pushT; rw [if_neg hs, if_neg hfull]⟩
      have hlen2 : Hid ((mg ltM L [m]).length = L.length + 1) := by show _ = _; rw [mg_length]; rfl
      have hS : ∀ w', Below W0.heap.size W0 w' → w'.cell? ⟨rb, 0, none⟩ = some (.slice a L.length cap) ∧ w'.frozen? ⟨rb, 0, none⟩ = false ∧ w'.cell? ⟨w.heap.size, 0, none⟩ = some (.int .i64 m.k.t) ∧ w'.cell? ⟨w.heap.size, 1, none⟩ = some (.int .i64 m.k.f) ∧ w'.cell? ⟨w.heap.size, 2, none⟩ = some (.int .i64 m.k.s) ∧ w'.cell? ⟨w.heap.size, 3, none⟩ = some (.int .i64 m.to) ∧ w'.cell? ⟨w.heap.size, 4, none⟩ = some (.int .i64 m.v) ∧ w'.cell? ⟨w.heap.size, 5, none⟩ = some (.int .i64 m.u) ∧ w'.cell? ⟨w.heap.size, 6, none⟩ = some (.bool m.anti) ∧ Below W0.heap.size W0 w' := fun w' hb => by
        have hd := h0.out.below hb
        obtain ⟨-, z0, z1, z2, z3, z4, z5, z6⟩ := (hx0.out.kept (S := fun _ => False) (.of_below hb) (fun e => e)).at
        simp only [Nat.zero_add] at z0 z1 z2 z3 z4 z5 z6
        exact ⟨hd.c0, frozen_of_block (o := 0) hd.1, z0, z1, z2, z3, z4, z5, z6, hb⟩
      have hin2 := fun w' (hb : Below W0.heap.size W0 w') => hins.out w' (h0.out.below hb).2
      clear hf hs hl hins
      have hlN : ¬ (16384 : Int) ≤ (L.length : Int) := by omega
      go_upto_region 5 with (go_at_call 32; refine hf'.out.mono ?_; rintro e w' ⟨rfl, rfl⟩)
      have hfin : Hid (∀ w1 g c, Below W0.heap.size W0 w1 → W0.heap.size ≤ g → Msgs w1 (some ⟨g, 0, none⟩) (L.length + 1) c (mg ltM L [m]) → RPushed w rb a L m (w1.setCell ⟨rb, 0, none⟩ (.slice (some ⟨g, 0, none⟩) (L.length + 1) c))) := by
        intro w1 g c hb hg hM
        have hd := (h0.out.below hb).1
        have hk := KeptOff.set w1 ⟨rb, 0, none⟩ (.slice (some ⟨g, 0, none⟩) (L.length + 1) c)
        have hs := hB0.out.size
        refine ⟨some ⟨g, 0, none⟩, c, ⟨?_, ?_⟩, (KeptOff.of_below (S := fun k => k = rb) (hB0.out.trans (hb.mono hs))).trans hk, .inr ⟨_, _, rfl⟩, .inr ⟨g, rfl, by omega⟩⟩
        · rw [e1.out.2, hlen2.out]
          simp [World.setCell, Array.getElem?_modify, hd]
        · rw [e1.out.2, hlen2.out]
          exact hM.kept hk (.inr ⟨g, 0, rfl, by simp only; omega⟩)
      clear hf' hst
      go_region_with (go_at_call 33; refine (hin2 _ (Below.refl _ W0).drew).mono ?_; rintro e w1 ⟨g, c, rfl, hq⟩; have hb1 : Below W0.heap.size W0 w1 := Below.trans (Below.refl _ W0).drew (by exact hq.out.2.2); have hS1 := hS w1 hb1; obtain ⟨c5, f5, -⟩ := hS1; have hb1' := Lib.hid hb1; clear hb1)
      all_goals
        have hR := Lib.hid (hfin.out w1 g c hb1'.out hq.out.1 hq.out.2.1)
        clear c5 f5 hcell y0 y1 y2 y3 y4 y5 y6 hq hb1' hin2 hS
        generalize w1.setCell ⟨rb, 0, none⟩ (.slice (some ⟨g, 0, none⟩) (L.length + 1) c) = w5 at hR ⊢
        go_wp2
        go_ret
        exact ⟨by rw [e1.out.1]; rfl, hR.out⟩
end Go.Proofs.YtjlbkdghlijoeaaGreat
namespace Go.Proofs.YtjlbkdghlijoeaaGreat
open Go.ChangeShapes Go.WideShapes Go.ChangeAt Go.Shelf Go.RowKit Go.Lib Go.Sort Go.Deep Go.Maps
set_option linter.unusedVariables false

set_option maxHeartbeats 1000000 in
theorem rCut_none {w : World} {rb cap : Nat} {a : Option Addr} {L : List M} (h : DocAt w rb a cap L) (f u : Int) (hs : hasS L f u = false) :
    Calls Tryz.prog 24 #[.pointer (some ⟨rb, 0, none⟩), .int .i64 f, .int .i64 u] w fun e w' => e = .returned (.tuple #[zeroM.val, .int .i64 6]) ∧ Below w.heap.size w w' := by
  have hf : Hid (Calls Tryz.prog 32 #[.pointer (some ⟨rb, 0, none⟩), .int .i64 f, .int .i64 u] (w.alloc (.cells #[.int .i64 0, .int .i64 0, .int .i64 0, .int .i64 0, .int .i64 0, .int .i64 0, .bool false] 34)) fun e w' => e = .returned (.int .i64 (-1)) ∧ w.alloc (.cells #[.int .i64 0, .int .i64 0, .int .i64 0, .int .i64 0, .int .i64 0, .int .i64 0, .bool false] 34) = w') := by
    refine (rfind_any (h.below ((Below.refl _ w).alloc (Nat.le_refl _) _)) f u).mono ?_
    rintro e w' ⟨⟨i, he, hF⟩, hw⟩
    refine ⟨?_, hw⟩
    rcases hF with ⟨rfl, h2⟩ | ⟨k, hk, rfl, h1, h2⟩
    · exact he
    · have := hasS_iff.2 ⟨L[k], List.getElem_mem hk, h1, h2⟩
      rw [hs] at this
      cases this
  clear h hs
  go_enter Tryz.func24, Tryz.ntmps24
  go_wp2_with (go_at_call 32; refine hf.out.mono ?_; rintro e w' ⟨rfl, rfl⟩)
  refine bodyPost_ret (v := .tuple #[.agg #[.int .i64 0, .int .i64 0, .int .i64 0, .int .i64 0, .int .i64 0, .int .i64 0, .bool false], .int .i64 6]) (by simp [results, Tryz.results24, go_sem]) rfl ⟨rfl, ?_⟩
  repeat (refine Below.setCell ?_ (by simp) _)
  exact (Below.refl _ w).alloc (Nat.le_refl _) _

/-- What a Cut leaves of the document's queue. -/
def RCut (w : World) (rb : Nat) (L : List M) (k : Nat) (w' : World) : Prop := ∃ a' cap', DocAt w' rb a' cap' (L.eraseIdx k) ∧ KeptOff (fun k => k = rb) w w' ∧ PlainA a' cap' ∧ ((L.eraseIdx k).length = 0 ∨ ∃ g, a' = some ⟨g, 0, none⟩ ∧ w.heap.size < g)
theorem RCut.row {w W : World} {rb k : Nat} {L : List M} (h : RCut w rb L k W) (hr : rb < w.heap.size) (cs : Array Value) : RCut w rb L k (W.setRow w.heap.size cs) := by
  obtain ⟨a', c', hd, hk, hp, hg⟩ := h
  have hkr := KeptOff.row W w.heap.size cs
  refine ⟨a', c', ⟨(hkr.block rb hd.lt (by omega)).trans hd.1, hd.2.kept hkr ?_⟩, hk.then_new hkr (fun k hk e => by omega), hp, hg⟩
  rcases hg with h0 | ⟨g, e, hg⟩
  · exact .inl h0
  · exact .inr ⟨g, 0, e, by omega⟩
/-- What the new row comes to. -/
theorem rcut_end {w w6 : World} {rb k N : Nat} {v : Value} {L : List M} {a : Option Addr} {cap : Nat} (hB : Below w.heap.size w w6) (hd : DocAt w6 rb a cap L) (ho : w6.ownsRow (w.heap.size + 2) 34 7 v N (flat (L.eraseIdx k))) (hN : N = (L.eraseIdx k).length) (hf : ∀ m ∈ L, m.fits) (hr : rb < w.heap.size) :
    ∃ a' c', v = .slice a' N c' ∧ Hid (RCut w rb L k (w6.setCell ⟨rb, 0, none⟩ (.slice a' N c'))) := by
  subst hN
  have hk := fun v => KeptOff.set w6 ⟨rb, 0, none⟩ v
  obtain ⟨a', c', rfl, hM⟩ := msgs_of_own ho (fun m hm => hf m (List.mem_of_mem_eraseIdx hm))
  have hd1 := hd.1
  have hp : PlainA a' c' ∧ ((L.eraseIdx k).length = 0 ∨ ∃ g, a' = some ⟨g, 0, none⟩ ∧ w.heap.size < g) := by
    rcases ho.2 with ⟨e, h0⟩ | ⟨g, cap1, cur, e, hb, _⟩
    · simp only [Value.slice.injEq] at e
      exact ⟨.inl ⟨e.1, e.2.2⟩, .inl h0⟩
    · cases e
      exact ⟨.inr ⟨_, _, rfl⟩, .inr ⟨g, rfl, by omega⟩⟩
  refine ⟨a', c', rfl, a', c', ⟨by simp [World.setCell, Array.getElem?_modify, hd1], hM.kept (hk _) ?_⟩, (KeptOff.of_below (S := fun k => k = rb) hB).trans (hk _), hp.1, hp.2⟩
  rcases hp.2 with h0 | ⟨g, e, hg⟩
  · exact .inl h0
  · exact .inr ⟨g, 0, e, by simp only; omega⟩

set_option maxHeartbeats 4000000 in
set_option maxRecDepth 100000 in
theorem rCut_some {w : World} {rb cap b off : Nat} {L : List M} (h : DocAt w rb (some ⟨b, off, none⟩) cap L) (hU : Unlike L) (f u : Int) (k : Nat) (hk : k < L.length) (hkf : L[k].k.f = f) (hku : L[k].u = u) (hl : L.length ≤ 16384) :
    Calls Tryz.prog 24 #[.pointer (some ⟨rb, 0, none⟩), .int .i64 f, .int .i64 u] w fun e w' => e = .returned (.tuple #[L[k].val, .int .i64 0]) ∧ RCut w rb L k w' := by
  obtain ⟨W0, hW0⟩ : ∃ W0, W0 = w.alloc (.cells #[.int .i64 0, .int .i64 0, .int .i64 0, .int .i64 0, .int .i64 0, .int .i64 0, .bool false] 34) := ⟨_, rfl⟩
  have hB0 : Hid (Below w.heap.size w W0) := by rw [hW0]; exact (Below.refl _ w).alloc (Nat.le_refl _) _
  have hR0 : Hid (BoxM W0 w.heap.size zeroM) := by rw [hW0]; exact BoxM.mk w zeroM
  have hsz0 : Hid (W0.heap.size = w.heap.size + 1) := by show _ = _; rw [hW0]; simp
  have h0 := h.below hB0.out
  have hrl := h.lt
  have hf : Hid (Calls Tryz.prog 32 #[.pointer (some ⟨rb, 0, none⟩), .int .i64 f, .int .i64 u] W0 fun e w' => e = .returned (.int .i64 (k : Int)) ∧ W0 = w') := by
    refine (rfind_any h0 f u).mono ?_
    rintro e w' ⟨⟨i, he, hF⟩, hw⟩
    refine ⟨?_, hw⟩
    rcases hF with ⟨rfl, h2⟩ | ⟨j, hj, rfl, h1, h2⟩
    · have := hasS_iff.2 ⟨L[k], List.getElem_mem hk, hkf, hku⟩
      rw [h2] at this
      cases this
    · rcases Nat.lt_trichotomy j k with h | rfl | h
      · exact absurd ⟨h1.trans hkf.symm, h2.trans hku.symm⟩ (List.pairwise_iff_getElem.1 hU j k hj hk h)
      · exact he
      · exact absurd ⟨hkf.trans h1.symm, hku.trans h2.symm⟩ (List.pairwise_iff_getElem.1 hU k j hk hj h)
  have hcapI : L.length ≤ cap ∧ cap ≤ 9223372036854775807 := by have h1 := h.2.2.1; have h2 := h.2.2.2.1; unfold maxLen at h2; exact ⟨h1, by omega⟩
  obtain ⟨hcap, hcm⟩ := hcapI
  have hfit := Lib.hid h.2.2.2.2.1
  have hmk : MsgAt W0 b (off + k * 7) L[k] := by
    rcases h0.2.2.2.2.2 with h1 | ⟨b1, o1, e, hm⟩
    · omega
    · cases e
      have := hm k hk
      rwa [List.getD_eq_getElem?_getD, List.getElem?_eq_getElem hk] at this
  have hbw : b < w.heap.size := by
    rcases h.2.2.2.2.2 with h1 | ⟨b1, o1, e, hm⟩
    · omega
    · cases e
      exact (hm k hk).1
  have h0' := Lib.hid h0
  have c0 := h0.c0
  obtain ⟨-, x0, x1, x2, x3, x4, x5, x6⟩ := hmk
  obtain ⟨N, hN⟩ : ∃ N, N = L.length := ⟨_, rfl⟩
  rw [← hN] at c0 hcap hl
  have hkN : k < N := by rw [hN]; exact hk
  have hN' := Lib.hid hN
  obtain ⟨m, hm⟩ : ∃ m, m = L[k] := ⟨_, rfl⟩
  rw [← hm] at x0 x1 x2 x3 x4 x5 x6 ⊢
  clear h h0 hU hkf hku hN hk hm
  have hz1 : (0 : Int) ≤ (k : Int) := by omega
  have hz2 : (k : Int) < (N : Int) := by omega
  have hz3 : ¬ (k : Int) < 0 := by omega
  go_enter Tryz.func24, Tryz.ntmps24
  go_upto_region 1 with (fail)
  rw [← hW0]
  clear hW0
  go_upto_region 5 with (go_at_call 32; refine hf.out.mono ?_; rintro e w' ⟨rfl, rfl⟩)
  have hb5 : Below W0.heap.size W0 (W0.alloc (.cells m.cells 34)) := (Below.refl _ W0).alloc (Nat.le_refl _) _
  have hx5 := Lib.hid (BoxM.mk W0 m)
  have hr5 := Lib.hid (hR0.out.kept (S := fun _ => False) (.of_below hb5) (fun e => e))
  have hd5 := Lib.hid (h0'.out.below hb5)
  have hB5 := Lib.hid (hB0.out.trans (hb5.mono hB0.out.size))
  have hs5 : Hid ((W0.alloc (.cells m.cells 34)).heap.size = w.heap.size + 2) := by show _ = _; simp [hsz0.out]
  have hB9 : Hid (W0.heap.size = w.heap.size + 1) := hsz0
  simp only [M.cells] at hx5 hr5 hd5 hB5 hs5
  clear hb5 h0' c0 x0 x1 x2 x3 x4 x5 x6 hf
  generalize W0.heap.size = B9 at hx5 hB9 ⊢
  generalize W0.alloc (.cells #[.int .i64 m.k.t, .int .i64 m.k.f, .int .i64 m.k.s, .int .i64 m.to, .int .i64 m.v, .int .i64 m.u, .bool m.anti] 34) = W5 at hx5 hr5 hd5 hB5 hs5 ⊢
  have c0 := hd5.out.c0
  rw [← hN'.out] at c0
  have ca := fun o => Lib.cell?_alloc_some o c0
  have hkc : (k : Int) ≤ (cap : Int) := by omega
  go_upto_region 6 with (at_builtin; go_loud (refine wpM rfl (.tmp 25) (.tmp 31) rfl (w.heap.size + 2) _ 0 [] rfl (World.ownsRow_made W5 #[] 0 (by have := hs5.out; omega) (Nat.zero_le _) (by simp)) ⟨b, off, none⟩ k cap (L.take k) rfl ?o2 ?o3 ?o4 ?o5 ?_))
  case o2 => rw [List.length_take, ← hN'.out]; omega
  case o3 => exact fun j u hj => Lib.cell?_alloc_some _ (take_cells hd5.out.2 k (by rw [← hN'.out]; omega) j u hj)
  case o4 => omega
  case o5 => have := hs5.out; simp; omega
  intro v1 w6 hown6 hgrow6
  have hown6' : Hid (w6.ownsRow (w.heap.size + 2) 34 7 v1 k (flat (L.take k))) := by
    have := hown6
    first | exact this | (simp only [Nat.zero_add, List.nil_append] at this; exact this)
  have hb6 : Below W5.heap.size W5 w6 := ((Below.refl _ W5).alloc (Nat.le_refl _) _).grown hgrow6.out (by simp) (by intro k hk; simp [Value.ownBlock] at hk; omega)
  have hx6 := Lib.hid (hx5.out.kept (S := fun _ => False) (.of_below hb6) (fun e => e))
  have hr6 := Lib.hid (hr5.out.kept (S := fun _ => False) (.of_below hb6) (fun e => e))
  have hd6 := Lib.hid (hd5.out.below hb6)
  have hB6 := Lib.hid (hB5.out.trans (hb6.mono hB5.out.size))
  have hs6 : Hid (w.heap.size + 2 ≤ w6.heap.size) := by show _ ≤ _; have := hb6.size; have := hs5.out; omega
  clear hown6 hgrow6 hb6 hx5 hr5 hd5 hB5 hs5 c0 ca
  have c0 := hd6.out.c0
  rw [← hN'.out] at c0
  have hw1 : IntKind.i64.wrap ((k : Int) + 1) = (k : Int) + 1 := IntWalk.i64_in _ (by omega)
  have hk1 : (k : Int) + 1 ≤ (N : Int) := by omega
  have hk2 : (N : Int) ≤ (cap : Int) := by omega
  have hlast : Hid (∀ v2 w7 n2, n2 = N - (k + 1) → w7.ownsRow (w.heap.size + 2) 34 7 v2 (k + n2) (flat (L.take k) ++ flat (L.drop (k + 1))) → Hid (w6.grownBy w7 v1.ownBlock) →
      ∃ a' c', v2 = .slice a' (N - 1) c' ∧ w7.cell? ⟨rb, 0, none⟩ = some (.slice (some ⟨b, off, none⟩) N cap) ∧ w7.frozen? ⟨rb, 0, none⟩ = false ∧ Hid (BoxM (w7.setCell ⟨rb, 0, none⟩ (.slice a' (N - 1) c')) B9 m ∧ BoxM (w7.setCell ⟨rb, 0, none⟩ (.slice a' (N - 1) c')) w.heap.size zeroM ∧ RCut w rb L k (w7.setCell ⟨rb, 0, none⟩ (.slice a' (N - 1) c')))) := by
    intro v2 w7 n2 hn2 ho hg
    have hkg : KeptOff (fun x => v1.ownBlock = some x) w6 w7 := KeptOff.of_grown hg.out
    have hrow := hown6'.out.lt
    have hdx := hd6.out
    have hd7 : DocAt w7 rb (some ⟨b, off, none⟩) cap L := by
      refine ⟨(hkg.block rb hdx.lt (fun e => by have := (hrow rb e).1; omega)).trans hdx.1, hdx.2.kept hkg (.inr ⟨b, off, rfl, fun e => ?_⟩)⟩
      have := (hrow b e).1
      omega
    have hB7 : Below w.heap.size w w7 := hB6.out.trans (hkg.below (fun x _ e => by have := (hrow x e).1; omega) hB6.out.size)
    have hlen : (L.eraseIdx k).length = N - 1 := by rw [List.length_eraseIdx_of_lt (by rw [← hN'.out]; exact hkN), ← hN'.out]
    obtain ⟨a', c', e, hR⟩ := rcut_end (k := k) (N := N - 1) hB7 hd7 (by
      rw [List.eraseIdx_eq_take_drop_succ, flat_append]
      have : k + n2 = N - 1 := by omega
      rw [this] at ho
      exact ho) hlen.symm hfit.out hrl
    refine ⟨a', c', e, ?_, frozen_of_block (o := 0) hd7.1, (hx6.out.kept hkg ?_).kept (KeptOff.set w7 ⟨rb, 0, none⟩ _) (by have := hB9.out; simp only; omega), (hr6.out.kept hkg ?_).kept (KeptOff.set w7 ⟨rb, 0, none⟩ _) (by simp only; omega), hR.out⟩
    · have := hd7.c0
      rw [← hN'.out] at this
      exact this
    · intro e
      have := (hrow _ e).1
      have := hB9.out
      omega
    · intro e
      have := (hrow _ e).1
      omega
  have hcd := hd6.out.2
  have hcd' := Lib.hid hcd
  clear hd6 hx6 hr6 hB6 hcd hfit
  by_cases hc : cap = k + 1
  · subst hc
    obtain rfl : N = k + 1 := by omega
    go_upto_region 7 with (at_builtin; refine wpM rfl (.tmp 34) (.tmp 41) rfl (w.heap.size + 2) _ k (flat (L.take k)) rfl hown6'.out ⟨b, off, none⟩ 0 0 (L.drop (k + 1)) rfl (by rw [List.length_drop, ← hN'.out]; omega) (fun j u hj => (by rw [List.drop_of_length_le (by rw [← hN'.out]; exact Nat.le_refl _)] at hj; simp [flat] at hj)) (by omega) hs6.out ?_; intro v2 w7 hown7 hgrow7; have hL := hlast.out v2 w7 0 (by omega) hown7 hgrow7; obtain ⟨a', c', rfl, c7, f7, hQ7⟩ := hL)
    simp only [Nat.add_sub_cancel] at hQ7 ⊢
    clear c7 f7 hlast hown7 hgrow7 hcd' hown6'
    generalize w7.setCell ⟨rb, 0, none⟩ (.slice a' k c') = W8 at hQ7 ⊢
    obtain ⟨-, y0, y1, y2, y3, y4, y5, y6⟩ := hQ7.out.1.at
    simp only [Nat.zero_add] at y0 y1 y2 y3 y4 y5 y6
    go_wp2_with (refine wpList_store_row rfl 34 (.tmp 6) (.tmp 45) rfl w.heap.size m.cells rfl rfl 34 zeroM.cells hQ7.out.2.1 infoS rfl (M.cells_one m) ?_)
    obtain ⟨-, s0, s1, s2, s3, s4, s5, s6⟩ := (hQ7.out.2.1.row m).at
    simp only [Nat.zero_add] at s0 s1 s2 s3 s4 s5 s6
    exact bodyPost_ret (v := .tuple #[m.val, .int .i64 0]) (by simp [results, Tryz.results24, go_sem, s0, s1, s2, s3, s4, s5, s6, M.val]) rfl ⟨rfl, hQ7.out.2.2.row hrl _⟩
  · have hc1 : ¬ cap - (k + 1) = 0 := by omega
    have hc2 : ¬ cap ≤ k + 1 := by omega
    have hdc := fun j u hj => drop_cells hcd'.out (k + 1) (by rw [← hN'.out]; omega) j u hj
    have hdc' := Lib.hid hdc
    clear hdc
    go_upto_region 7 with (at_builtin; refine wpM rfl (.tmp 34) (.tmp 41) rfl (w.heap.size + 2) _ k (flat (L.take k)) rfl hown6'.out ⟨b, off + (k + 1) * 7, none⟩ (N - (k + 1)) (cap - (k + 1)) (L.drop (k + 1)) rfl (by rw [List.length_drop, ← hN'.out]) hdc'.out (by omega) hs6.out ?_; intro v2 w7 hown7 hgrow7; have hL := hlast.out v2 w7 _ rfl hown7 hgrow7; obtain ⟨a', c', rfl, c7, f7, hQ7⟩ := hL)
    clear c7 f7 hlast hown7 hgrow7 hcd' hown6' hdc'
    generalize w7.setCell ⟨rb, 0, none⟩ (.slice a' (N - 1) c') = W8 at hQ7 ⊢
    obtain ⟨-, y0, y1, y2, y3, y4, y5, y6⟩ := hQ7.out.1.at
    simp only [Nat.zero_add] at y0 y1 y2 y3 y4 y5 y6
    go_wp2_with (refine wpList_store_row rfl 34 (.tmp 6) (.tmp 45) rfl w.heap.size m.cells rfl rfl 34 zeroM.cells hQ7.out.2.1 infoS rfl (M.cells_one m) ?_)
    obtain ⟨-, s0, s1, s2, s3, s4, s5, s6⟩ := (hQ7.out.2.1.row m).at
    simp only [Nat.zero_add] at s0 s1 s2 s3 s4 s5 s6
    exact bodyPost_ret (v := .tuple #[m.val, .int .i64 0]) (by simp [results, Tryz.results24, go_sem, s0, s1, s2, s3, s4, s5, s6, M.val]) rfl ⟨rfl, hQ7.out.2.2.row hrl _⟩
end Go.Proofs.YtjlbkdghlijoeaaGreat
