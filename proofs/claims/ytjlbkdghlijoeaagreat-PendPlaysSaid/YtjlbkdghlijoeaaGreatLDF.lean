/-
  Rungs as plain lists: the bottom in order, each rung above it behind all that are lower. No model in this text.
  A message added to the bottom.
-/
import Derived.Test.YtjlbkdghlijoeaaGreatLDI
namespace Go.Proofs.YtjlbkdghlijoeaaGreat
open Go.Sort
set_option linter.unusedVariables false

theorem lt_trans' {a b c : M} (h : ltM a b = true) (h' : ltM b c = true) : ltM a c = true := by
  rw [ltM_iff] at *
  omega
theorem no_lt {a b c : M} (h : ltM a b = false) (h' : ltM c b = true) : ltM a c = false := by
  rw [ltM_iff] at h'
  rw [ltM_no] at *
  omega
theorem lt_of_no {a b : M} (h : ltM b a = false) (hs : ¬ sameS a b) : ltM a b = true := by
  cases h' : ltM a b with
  | true => rfl
  | false => exact absurd (same_of_no h' h) hs

/-- The rungs above the bottom, the highest one first. -/
structure Steps (us : List Up) : Prop where
  own : ∀ u ∈ us, ∀ m ∈ u.L, ltM m u.foot = false
  step : us.Pairwise fun u u' => (∀ m ∈ u'.L, ltM m u.foot = true) ∧ ltM u'.foot u.foot = true
  full : ∀ u ∈ us, u.L ≠ []
/-- All the rungs. -/
structure Stairs (B : List M) (us : List Up) : Prop where
  bot : InOrder ltM B
  low : ∀ u ∈ us, ∀ m ∈ B, ltM m u.foot = true
  up : Steps us
  some : B = [] → us = []
/-- What they hold. -/
def held (B : List M) (us : List Up) : List M := B ++ us.flatMap Up.L
theorem Steps.nil : Steps [] := ⟨fun u h => (by cases h), List.Pairwise.nil, fun u h => (by cases h)⟩
theorem Steps.mid {X Y : List Up} {u : Up} (h : Steps (X ++ u :: Y)) : (∀ x ∈ X, (∀ m ∈ u.L, ltM m x.foot = true) ∧ ltM u.foot x.foot = true) ∧ (∀ y ∈ Y, (∀ m ∈ y.L, ltM m u.foot = true) ∧ ltM y.foot u.foot = true) ∧ Steps (X ++ Y) := by
  have hp := List.pairwise_append.1 h.step
  have hp2 := List.pairwise_cons.1 hp.2.1
  refine ⟨fun x hx => hp.2.2 x hx u (List.mem_cons_self ..), hp2.1, ⟨fun x hx => h.own x ?_, List.pairwise_append.2 ⟨hp.1, hp2.2, fun x hx y hy => hp.2.2 x hx y (List.mem_cons_of_mem _ hy)⟩, fun x hx => h.full x ?_⟩⟩
  · exact (List.mem_append.1 hx).elim (List.mem_append_left _) (fun e => List.mem_append_right _ (List.mem_cons_of_mem _ e))
  · exact (List.mem_append.1 hx).elim (List.mem_append_left _) (fun e => List.mem_append_right _ (List.mem_cons_of_mem _ e))
theorem Steps.turn {X Y : List Up} {u u' : Up} (h : Steps (X ++ u :: Y)) (hf : u'.foot = u.foot) (ho : ∀ m ∈ u'.L, ltM m u.foot = false) (hx : ∀ x ∈ X, ∀ m ∈ u'.L, ltM m x.foot = true) (hn : u'.L ≠ []) : Steps (X ++ u' :: Y) := by
  obtain ⟨h1, h2, h3⟩ := h.mid
  have hp := List.pairwise_append.1 h3.step
  have hin : ∀ x, x ∈ X ++ u' :: Y → x = u' ∨ x ∈ X ++ Y := fun x hx => by
    rcases List.mem_append.1 hx with e | e
    · exact .inr (List.mem_append_left _ e)
    · rcases List.mem_cons.1 e with e | e
      · exact .inl e
      · exact .inr (List.mem_append_right _ e)
  refine ⟨fun x hx => ?_, List.pairwise_append.2 ⟨hp.1, List.pairwise_cons.2 ⟨fun y hy => by rw [hf]; exact h2 y hy, hp.2.1⟩, fun x hx' y hy => ?_⟩, fun x hx => ?_⟩
  · rcases hin x hx with rfl | e
    · rw [hf]; exact ho
    · exact h3.own x e
  · rcases List.mem_cons.1 hy with rfl | hy
    · exact ⟨hx x hx', by rw [hf]; exact (h1 x hx').2⟩
    · exact hp.2.2 x hx' y hy
  · rcases hin x hx with rfl | e
    · exact hn
    · exact h3.full x e
theorem held_mid (B : List M) (X Y : List Up) (u : Up) : (held B (X ++ u :: Y)).Perm (u.L ++ held B (X ++ Y)) := by
  unfold held
  rw [List.flatMap_append, List.flatMap_append, List.flatMap_cons]
  have h1 : (X.flatMap Up.L ++ (u.L ++ Y.flatMap Up.L)).Perm (u.L ++ (X.flatMap Up.L ++ Y.flatMap Up.L)) := by
    rw [← List.append_assoc, ← List.append_assoc]
    exact List.Perm.append_right _ List.perm_append_comm
  refine (List.Perm.append_left B h1).trans ?_
  rw [← List.append_assoc, ← List.append_assoc u.L B]
  exact List.Perm.append_right _ List.perm_append_comm

/-- One more in a rung above. -/
theorem Stairs.putUp {B : List M} {X Y : List Up} {u : Up} {m : M} (h : Stairs B (X ++ u :: Y)) (hx : ∀ x ∈ X, ltM m x.foot = true) (hu : ltM m u.foot = false) (v' : Value) : Stairs B (X ++ ⟨v', u.L ++ [m], u.foot⟩ :: Y) ∧ (held B (X ++ ⟨v', u.L ++ [m], u.foot⟩ :: Y)).Perm (m :: held B (X ++ u :: Y)) := by
  have hu' : u ∈ X ++ u :: Y := List.mem_append_right _ (List.mem_cons_self ..)
  obtain ⟨h1, h2, h3⟩ := h.up.mid
  refine ⟨⟨h.bot, fun x hx' b hb => ?_, h.up.turn rfl (fun a ha => ?_) (fun x hx' a ha => ?_) (by simp), fun e => absurd (h.some e) (by simp)⟩, ?_⟩
  · rcases List.mem_append.1 hx' with e | e
    · exact h.low x (List.mem_append_left _ e) b hb
    · rcases List.mem_cons.1 e with rfl | e
      · exact h.low u hu' b hb
      · exact h.low x (List.mem_append_right _ (List.mem_cons_of_mem _ e)) b hb
  · rcases List.mem_append.1 ha with e | e
    · exact h.up.own u hu' a e
    · rw [List.mem_singleton.1 e]; exact hu
  · rcases List.mem_append.1 ha with e | e
    · exact (h1 x hx').1 a e
    · rw [List.mem_singleton.1 e]; exact hx x hx'
  · refine (held_mid B X Y _).trans ?_
    have e2 : ((u.L ++ [m]) ++ held B (X ++ Y)).Perm (m :: (u.L ++ held B (X ++ Y))) := by
      rw [List.append_assoc]
      exact List.perm_middle
    exact e2.trans ((held_mid B X Y u).symm.cons m)
/-- One more in the bottom. -/
theorem Stairs.putBot {B : List M} {us : List Up} {m : M} {p : Nat} (h : Stairs B us) (hx : ∀ x ∈ us, ltM m x.foot = true) (hp : PlaceB B m p) : Stairs (B.take p ++ m :: B.drop p) us ∧ (held (B.take p ++ m :: B.drop p) us).Perm (m :: held B us) := by
  have hpm := ins_perm B p m
  refine ⟨⟨ins_order h.bot hp, fun x hx' b hb => ?_, h.up, fun e => by simp at e⟩, ?_⟩
  · rcases List.mem_cons.1 (hpm.mem_iff.1 hb) with rfl | hb
    · exact hx x hx'
    · exact h.low x hx' b hb
  · unfold held
    exact List.Perm.append_right _ hpm
/-- The later half of a list in order, as a rung of its own, or with what lay in one. -/
theorem stair_push {l Lp : List M} {X : List Up} {half : Nat} (hO : InOrder ltM l) (hU : Unlike l) (hl : ∀ x ∈ X, ∀ m ∈ l, ltM m x.foot = true) (hX : Steps X) (h1 : 1 ≤ half) (h2 : half < l.length) (hL : ∀ m ∈ Lp, (∀ x ∈ X, ltM m x.foot = true) ∧ ltM m (l.getD half default) = false) (v' : Value) :
    Stairs (l.take half) (X ++ [⟨v', Lp ++ l.drop half, l.getD half default⟩]) ∧ (held (l.take half) (X ++ [⟨v', Lp ++ l.drop half, l.getD half default⟩])).Perm (l ++ (X.flatMap Up.L ++ Lp)) := by
  have hf : l.getD half default = l[half] := getD_at l half h2
  rw [hf] at hL ⊢
  have hd : l.drop half = l[half] :: l.drop (half + 1) := List.drop_eq_getElem_cons h2
  have hs := List.pairwise_append.1 (show InOrder ltM (l.take half ++ l.drop half) by rw [List.take_append_drop]; exact hO)
  have hus := List.pairwise_append.1 (show Unlike (l.take half ++ l.drop half) by rw [List.take_append_drop]; exact hU)
  have hmem : l[half] ∈ l.drop half := by rw [hd]; exact List.mem_cons_self ..
  have hml : l[half] ∈ l := List.getElem_mem h2
  have hlow : ∀ m ∈ l.take half, ltM m l[half] = true := fun m hm => lt_of_no (hs.2.2 m hm _ hmem) (hus.2.2 m hm _ hmem)
  have hup : ∀ m ∈ l.drop half, ltM m l[half] = false := fun m hm => by
    have hs2 := hs.2.1
    rw [hd] at hm hs2
    rcases List.mem_cons.1 hm with rfl | hm
    · rw [ltM_no]; omega
    · exact (List.pairwise_cons.1 hs2).1 m hm
  refine ⟨⟨hs.1, fun x hx m hm => ?_, ⟨fun x hx m hm => ?_, List.pairwise_append.2 ⟨hX.step, List.pairwise_singleton _ _, fun x hx y hy => ?_⟩, fun x hx => ?_⟩, fun e => ?_⟩, ?_⟩
  · rcases List.mem_append.1 hx with e | e
    · exact hl x e m (List.mem_of_mem_take hm)
    · rw [List.mem_singleton.1 e]; exact hlow m hm
  · rcases List.mem_append.1 hx with e | e
    · exact hX.own x e m hm
    · rw [List.mem_singleton.1 e] at hm ⊢
      rcases List.mem_append.1 hm with hm | hm
      · exact (hL m hm).2
      · exact hup m hm
  · rw [List.mem_singleton.1 hy]
    refine ⟨fun m hm => ?_, hl x hx _ hml⟩
    rcases List.mem_append.1 hm with hm | hm
    · exact (hL m hm).1 x hx
    · exact hl x hx m (List.mem_of_mem_drop hm)
  · rcases List.mem_append.1 hx with e | e
    · exact hX.full x e
    · rw [List.mem_singleton.1 e]
      intro e2
      have := congrArg List.length e2
      simp at this
      omega
  · have := congrArg List.length e
    rw [List.length_take, Nat.min_eq_left (by omega), List.length_nil] at this
    omega
  · unfold held
    rw [List.flatMap_append]
    have e1 : [(⟨v', Lp ++ l.drop half, l[half]⟩ : Up)].flatMap Up.L = Lp ++ l.drop half := by simp
    rw [e1]
    have e2 : (X.flatMap Up.L ++ (Lp ++ l.drop half)).Perm (l.drop half ++ (X.flatMap Up.L ++ Lp)) := by
      rw [← List.append_assoc]
      exact List.perm_append_comm
    refine (List.Perm.append_left _ e2).trans ?_
    rw [← List.append_assoc, List.take_append_drop]
/-- The bottom's later half let up to the lowest rung. -/
theorem Stairs.spill {B : List M} {X : List Up} {u : Up} {half : Nat} (h : Stairs B (X ++ [u])) (hU : Unlike B) (h1 : 1 ≤ half) (h2 : half < B.length) (v' : Value) :
    Stairs (B.take half) (X ++ [⟨v', u.L ++ B.drop half, B.getD half default⟩]) ∧ (held (B.take half) (X ++ [⟨v', u.L ++ B.drop half, B.getD half default⟩])).Perm (held B (X ++ [u])) := by
  obtain ⟨g1, g2, g3⟩ := h.up.mid
  have hu : u ∈ X ++ [u] := List.mem_append_right _ (List.mem_cons_self ..)
  rw [List.append_nil] at g3
  have hf : B.getD half default ∈ B := by rw [getD_at B half h2]; exact List.getElem_mem h2
  have := stair_push (Lp := u.L) h.bot hU (fun x hx m hm => h.low x (List.mem_append_left _ hx) m hm) g3 h1 h2 (fun m hm => ⟨fun x hx => (g1 x hx).1 m hm, no_lt (h.up.own u hu m hm) (h.low u hu _ hf)⟩) v'
  refine ⟨this.1, this.2.trans ?_⟩
  unfold held
  rw [List.flatMap_append]
  simp
theorem Stairs.spillNew {B : List M} {half : Nat} (h : Stairs B []) (hU : Unlike B) (h1 : 1 ≤ half) (h2 : half < B.length) (v' : Value) :
    Stairs (B.take half) [⟨v', B.drop half, B.getD half default⟩] ∧ (held (B.take half) [⟨v', B.drop half, B.getD half default⟩]).Perm (held B []) := by
  have := stair_push (Lp := []) (X := []) h.bot hU (fun x hx => by cases hx) Steps.nil h1 h2 (fun m hm => by cases hm) v'
  simpa [held] using this
/-- Of the rungs in order the first message is the bottom's first. -/
theorem Stairs.first {B : List M} {us : List Up} {T : List M} {m : M} (h : Stairs B us) (hp : (held B us).Perm (m :: T)) (hO : InOrder ltM (m :: T)) (hU : Unlike (m :: T)) : ∃ B', B = m :: B' := by
  have hmem : m ∈ held B us := hp.mem_iff.2 (List.mem_cons_self ..)
  have hO' := List.pairwise_cons.1 hO
  have hU' := List.pairwise_cons.1 hU
  match B, h with
  | [], h =>
    rw [h.some rfl] at hmem
    simp [held] at hmem
  | b :: B, h =>
    have hb : b ∈ m :: T := hp.mem_iff.1 (List.mem_append_left _ (List.mem_cons_self ..))
    rcases List.mem_cons.1 hb with rfl | hb
    · exact ⟨B, rfl⟩
    · exfalso
      have h1 : ltM b m = false := hO'.1 b hb
      have h2 : ltM m b = true := lt_of_no h1 (hU'.1 b hb)
      rcases List.mem_append.1 hmem with hm | hm
      · rcases List.mem_cons.1 hm with rfl | hm
        · rw [h1] at h2; cases h2
        · rw [(List.pairwise_cons.1 h.bot).1 m hm] at h2
          cases h2
      · obtain ⟨u, hu, hm⟩ := List.mem_flatMap.1 hm
        have h3 := h.low u hu b (List.mem_cons_self ..)
        have h4 := h.up.own u hu m hm
        have h5 := lt_trans' h2 h3
        rw [h4] at h5
        cases h5
end Go.Proofs.YtjlbkdghlijoeaaGreat
namespace Go.Proofs.YtjlbkdghlijoeaaGreat
open Go.ChangeShapes Go.WideShapes Go.ChangeAt Go.Shelf Go.RowKit Go.Lib Go.Sort Go.Deep
set_option linter.unusedVariables false

set_option maxHeartbeats 4000000 in
set_option maxRecDepth 100000 in
theorem badd_any {w : World} {b o : Nat} {v : Value} {cs : Array Value} {t : TypeId} {l : List M} (hb : w.heap[b]? = some (.cells cs t (0, 0))) (hc : w.cell? ⟨b, o, none⟩ = some v) (h : AtM w v l) (hv : ¬ vext v 7 b o) (hO : InOrder ltM l) (m : M) (hl : l.length < 1000000) :
    Calls Tryz.prog 136 #[.pointer (some ⟨b, o, none⟩), m.val] w fun e w' => e = .returned (.tuple #[]) ∧ ∃ p, PlaceB l m p ∧ RungRes w b o v (l.take p ++ m :: l.drop p) w' := by
  have mixed := mixed
  have hvl := RowAt.lt h
  have hbl : b < w.heap.size := (Array.getElem?_eq_some_iff.1 hb).1
  obtain ⟨A, hA⟩ : ∃ A, A = w.heap.size := ⟨_, rfl⟩
  obtain ⟨W1, hW1⟩ : ∃ W1, W1 = w.alloc (.cells #[.pointer (some ⟨b, o, none⟩)] 176) := ⟨_, rfl⟩
  have s1 : W1.heap.size = A + 1 := by rw [hW1, hA]; simp
  obtain ⟨W2, hW2⟩ : ∃ W2, W2 = W1.alloc (.cells m.cells 34) := ⟨_, rfl⟩
  have hb1 : Below w.heap.size w W1 := by rw [hW1]; exact (Below.refl _ w).alloc (Nat.le_refl _) _
  have hb2 : Below w.heap.size w W2 := by rw [hW2]; exact hb1.alloc hb1.size _
  have hbx : BoxM W2 (A + 1) m := by rw [hW2, ← s1]; exact BoxM.mk W1 m
  have hax : W2.heap[A]? = some (.cells #[.pointer (some ⟨b, o, none⟩)] 176 (0, 0)) := by
    rw [hW2, Below.heap_alloc W1 _ A (by omega), hW1, hA]
    exact heap_alloc_new w _
  -- what the loads read, in every world that is as W2 but for the list
  have hS : ∀ w', KeptC (vext v 7) W2 w' → w'.cell? ⟨A, 0, none⟩ = some (.pointer (some ⟨b, o, none⟩)) ∧ w'.cell? ⟨b, o, none⟩ = some v ∧ w'.frozen? ⟨b, o, none⟩ = false ∧ MsgAt w' (A + 1) 0 m := by
    intro w' hk
    have hA' : w'.heap[A]? = some (.cells #[.pointer (some ⟨b, o, none⟩)] 176 (0, 0)) := (hk.block A (Array.getElem?_eq_some_iff.1 hax).1 (fun q e => by have := hvl _ e.own; omega)).trans hax
    have hB' : BoxM w' (A + 1) m := hbx.keptC hk (fun q e => by have := hvl _ e.own; omega)
    obtain ⟨q1, q2⟩ := cell_keptC (below_row hb hb2) ((hb2.cell (p := ⟨b, o, none⟩) hbl).trans hc) hk hv
    exact ⟨by simp [World.cell?, hA'], q1, q2, hB'.at⟩
  have hread : ∀ w', Read W2 w' → KeptC (vext v 7) W2 w' := fun w' hr => .of_below hr.below
  have hsr : Calls Tryz.prog 110 #[.int .i64 l.length, .func (.func 142) #[] #[.pointer (some ⟨A + 1, 0, none⟩), .pointer (some ⟨A, 0, none⟩)]] W2 fun e w' => ∃ p : Nat, e = .returned (.int .i64 p) ∧ Hid (Below W2.heap.size W2 w' ∧ PlaceB l m p) := by
    refine (find_lbadd1 l.length hl (fun i => ltM m (l.getD i default)) _ _ (fun k hk W hW => ?_) (fun i j => up_mono hO m i j)).mono ?_
    · obtain ⟨g, off, cap, hve, hR⟩ := AtM.form h (by omega)
      subst hve
      obtain ⟨p1, p2, -, p3⟩ := hS W (hread W hW)
      exact badd1_any m p1 p2 p3 (RowM.kept0 hR (hb2.trans (hW.below.mono hb2.size))) k hk
    · rintro e w' ⟨p, he, hr, h1, h2, h3⟩
      exact ⟨p, he, hr.below, h1, h2, h3⟩
  obtain ⟨a, cap, hve, hlc⟩ := RowAt.shape h
  have hsz : ∀ w', Below W2.heap.size W2 w' → Calls Tryz.prog 132 #[.pointer (some ⟨b, o, none⟩)] w' fun e w'' => e = .returned (.int .i64 l.length) ∧ w' = w'' := by
    intro w' hbw
    have := (hS w' (.of_below hbw)).2.1
    rw [hve] at this
    exact rsize_any this
  have hsz2 := hsz W2 (Below.refl _ _)
  have hin : Hid (∀ p W5 B5, PlaceB l m p → Below W2.heap.size W2 W5 → W2.heap.size ≤ B5 → BoxM W5 B5 m → Calls Tryz.prog 143 #[v, .int .i64 p, .slice (some ⟨B5, 0, none⟩) 1 1] W5 fun e w5 => ∃ g off cap : Nat, e = .returned (.slice (some ⟨g, off, none⟩) (l.length + 1) cap) ∧
      Hid (KeptC (vext v 7) W2 w5 ∧ RungRes w b o v (l.take p ++ m :: l.drop p) (w5.setCell ⟨b, o, none⟩ (.slice (some ⟨g, off, none⟩) (l.length + 1) cap)))) := by
    intro p W5 B5 hp hb5 hs5 hx5
    have hb05 : Below w.heap.size w W5 := hb2.trans (hb5.mono hb2.size)
    have hw24 := hb2.size
    refine (insM_any (v := v) (RowAt.below h hb05) p hp.1 hx5 (fun e => by have := hvl _ e; omega) hl).mono ?_
    rintro e w5 ⟨g, off, cap, he, hR, hk, hx⟩
    refine ⟨g, off, cap, he, (KeptC.of_below hb5).trans hk, ?_⟩
    have hA5 : AtM w5 (.slice (some ⟨g, off, none⟩) (l.length + 1) cap) (l.take p ++ m :: l.drop p) := by
      have hR' : RowIn w5 34 7 g off (l.take p ++ m :: l.drop p).length cap (flat (l.take p ++ m :: l.drop p)) := hR
      unfold AtM
      rw [ins_len l p hp.1] at hR' ⊢
      exact hR'.at_
    exact RungRes.from_below hb05 (rung_set (below_row hb hb05) (cell_in_row hb hc) hv hA5 hk (fun k q e => hx k q (vext_some.1 e)) (own_of_ext hA5 (by rw [ins_len l p hp.1]; omega) (fun k q e => hx k q (vext_some.1 e))))
  have hW1' := Lib.hid hW1
  have hW2' := Lib.hid hW2
  have hA' := Lib.hid hA
  have hfin : Hid (∀ p w', RungRes w b o v (l.take p ++ m :: l.drop p) w' → PlaceB l m p → ∃ p, PlaceB l m p ∧ RungRes w b o v (l.take p ++ m :: l.drop p) w') := fun p w' h1 h2 => ⟨p, h2, h1⟩
  subst hve
  have hS2 : Hid (∀ w', KeptC (vext (.slice a l.length cap) 7) W2 w' → w'.cell? ⟨A, 0, none⟩ = some (.pointer (some ⟨b, o, none⟩)) ∧ w'.cell? ⟨b, o, none⟩ = some (.slice a l.length cap) ∧ w'.frozen? ⟨b, o, none⟩ = false ∧ (w'.cell? ⟨A + 1, 0, none⟩ = some (.int .i64 m.k.t) ∧ w'.cell? ⟨A + 1, 1, none⟩ = some (.int .i64 m.k.f) ∧ w'.cell? ⟨A + 1, 2, none⟩ = some (.int .i64 m.k.s) ∧ w'.cell? ⟨A + 1, 3, none⟩ = some (.int .i64 m.to) ∧ w'.cell? ⟨A + 1, 4, none⟩ = some (.int .i64 m.v) ∧ w'.cell? ⟨A + 1, 5, none⟩ = some (.int .i64 m.u) ∧ w'.cell? ⟨A + 1, 6, none⟩ = some (.bool m.anti))) := by
    intro w' hk
    obtain ⟨p1, p2, p3, -, y0, y1, y2, y3, y4, y5, y6⟩ := hS w' hk
    simp only [Nat.zero_add] at y0 y1 y2 y3 y4 y5 y6
    exact ⟨p1, p2, p3, y0, y1, y2, y3, y4, y5, y6⟩
  have hc2 := hS2.out W2 (KeptC.refl _ _)
  have hcA := hc2.1
  clear hS hread hsz hb2 hb1 hbx hax hb hc h hv hvl hO hlc hW1 hW2 hA hbl hc2
  have hsr' := Lib.hid hsr
  clear hsr
  obtain ⟨⟨mt, f, s⟩, tt, vv, u, an⟩ := m
  simp only [M.val, M.cells] at hW2' hS2 hin ⊢
  go_enter Tryz.func136, Tryz.ntmps136
  go_upto_region 1 with (fail)
  rw [show w.alloc (.cells #[.pointer (some ⟨b, o, none⟩)] 176) = W1 from hW1'.out.symm, ← hA'.out, ← hW2'.out]
  go_upto_region 2 with (first
    | (go_at_call 132; refine hsz2.mono ?_; rintro e w2 ⟨rfl, rfl⟩)
    | (go_at_call 110; refine hsr'.out.mono ?_; rintro e w3 ⟨p, rfl, h3⟩))
  obtain ⟨hb3, hpl⟩ := h3.out
  have hS2' := hS2
  obtain ⟨c3, l3, f3, y0, y1, y2, y3, y4, y5, y6⟩ := hS2.out w3 (.of_below hb3)
  have c4 := fun ob => Lib.cell?_alloc_some ob c3
  have l4 := fun ob => Lib.cell?_alloc_some ob l3
  have z0 := fun ob => Lib.cell?_alloc_some ob y0
  have z1 := fun ob => Lib.cell?_alloc_some ob y1
  have z2 := fun ob => Lib.cell?_alloc_some ob y2
  have z3 := fun ob => Lib.cell?_alloc_some ob y3
  have z4 := fun ob => Lib.cell?_alloc_some ob y4
  have z5 := fun ob => Lib.cell?_alloc_some ob y5
  have z6 := fun ob => Lib.cell?_alloc_some ob y6
  have hin3 := hin.out p (w3.alloc (.cells #[.int .i64 mt, .int .i64 f, .int .i64 s, .int .i64 tt, .int .i64 vv, .int .i64 u, .bool an] 34)).drew w3.heap.size hpl (hb3.alloc hb3.size _).drew hb3.size (BoxM.mk w3 ⟨⟨mt, f, s⟩, tt, vv, u, an⟩)
  clear hS2 hin hb3 hcA
  go_region_with (first
      | (go_at_call 143; (refine hin3.mono ?_); rintro e w5 ⟨g5, off5, cap5, rfl, h5⟩; obtain ⟨hk5, hR5⟩ := h5.out; obtain ⟨c5, l5, f5, -⟩ := hS2'.out w5 hk5; have hR5' := Lib.hid hR5; clear hR5 hk5 h5))
  all_goals
    go_wp2
    go_end0
    exact ⟨rfl, hfin.out p _ hR5'.out hpl⟩
end Go.Proofs.YtjlbkdghlijoeaaGreat
