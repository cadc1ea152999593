
/-
  Rungs in memory: the bottom and what lies above it; a step of one rung.
-/
import Derived.Test.YtcfpfbemmklbaaaLDE
namespace Go.Proofs.Ytcfpfbemmklbaaa
open Go.ChangeShapes Go.WideShapes Go.ChangeAt Go.Shelf Go.RowKit Go.Lib Go.Sort Go.Deep
set_option linter.unusedVariables false

/-- Two lists that share no cell, their spare room too. -/
def Dis (v v' : Value) : Prop := ∀ k o, vext v 7 k o → vext v' 7 k o → False
theorem Dis.symm {v v' : Value} (h : Dis v v') : Dis v' v := fun k o a b => h k o b a
/-- The rungs in memory. -/
structure RungsOf (w : World) (rb : Nat) (most : Int) (bv : Value) (B : List M) (av : Value) (us : List Up) : Prop where
  row : w.heap[rb]? = some (.cells #[bv, .int .i64 most, av] 82 (0, 0))
  bot : AtM w bv B
  abv : AtU w av us
  each : ∀ u ∈ us, AtM w u.v u.L
  apart : (bv :: us.map Up.v).Pairwise Dis
/-- The blocks that they own. -/
def ROwn (rb : Nat) (bv av : Value) (us : List Up) (k : Nat) : Prop := k = rb ∨ bv.ownBlock = some k ∨ av.ownBlock = some k ∨ ∃ u ∈ us, u.v.ownBlock = some k
section
variable {w w' : World} {rb : Nat} {most : Int} {bv av : Value} {B : List M} {us : List Up}
theorem RowAt.tag {e : TypeId} {sz n : Nat} {v : Value} {xs : List Value} {w : World} (h : RowAt w e sz v n xs) {k : Nat} (hk : v.ownBlock = some k) : ∃ cur, w.heap[k]? = some (.cells cur e (0, 0)) := by
  rcases h with ⟨rfl, _⟩ | ⟨g, off, cap, rfl, cur, h, _⟩
  · cases hk
  · simp [Value.ownBlock] at hk
    subst hk
    exact ⟨cur, h⟩
theorem RungsOf.rlt (h : RungsOf w rb most bv B av us) : rb < w.heap.size := (Array.getElem?_eq_some_iff.1 h.row).1
theorem RungsOf.c0 (h : RungsOf w rb most bv B av us) : w.cell? ⟨rb, 0, none⟩ = some bv := by have := h.row; simp [World.cell?, this]
theorem RungsOf.c1 (h : RungsOf w rb most bv B av us) : w.cell? ⟨rb, 1, none⟩ = some (.int .i64 most) := by have := h.row; simp [World.cell?, this]
theorem RungsOf.c2 (h : RungsOf w rb most bv B av us) : w.cell? ⟨rb, 2, none⟩ = some av := by have := h.row; simp [World.cell?, this]
theorem RungsOf.fz (h : RungsOf w rb most bv B av us) (o : Nat) : w.frozen? ⟨rb, o, none⟩ = false := by have := h.row; simp [World.frozen?, this]
theorem RungsOf.msg_rb (h : RungsOf w rb most bv B av us) {v : Value} {l : List M} (hv : AtM w v l) {k : Nat} (hk : v.ownBlock = some k) : k ≠ rb := by
  obtain ⟨cur, h1⟩ := RowAt.tag hv hk
  intro e
  rw [e, h.row] at h1
  cases h1
theorem RungsOf.av_rb (h : RungsOf w rb most bv B av us) {k : Nat} (hk : av.ownBlock = some k) : k ≠ rb := by
  obtain ⟨cur, h1⟩ := RowAt.tag h.abv hk
  intro e
  rw [e, h.row] at h1
  cases h1
theorem RungsOf.av_msg (h : RungsOf w rb most bv B av us) {v : Value} {l : List M} (hv : AtM w v l) {k : Nat} (hk : v.ownBlock = some k) : av.ownBlock ≠ some k := by
  intro e
  obtain ⟨cur, h1⟩ := RowAt.tag hv hk
  obtain ⟨cur', h2⟩ := RowAt.tag h.abv e
  rw [h1] at h2
  simp at h2
theorem RungsOf.own_lt (h : RungsOf w rb most bv B av us) {k : Nat} (hk : ROwn rb bv av us k) : k < w.heap.size := by
  rcases hk with rfl | e | e | ⟨u, hu, e⟩
  · exact h.rlt
  · exact RowAt.lt h.bot k e
  · exact RowAt.lt h.abv k e
  · exact RowAt.lt (h.each u hu) k e
theorem RungsOf.kept {S : Nat → Prop} (h : RungsOf w rb most bv B av us) (hk : KeptOff S w w') (hn : ∀ k, ROwn rb bv av us k → ¬ S k) : RungsOf w' rb most bv B av us :=
  ⟨(hk.block rb h.rlt (hn rb (.inl rfl))).trans h.row, RowAt.kept h.bot hk (fun k e => hn k (.inr (.inl e))), RowAt.kept h.abv hk (fun k e => hn k (.inr (.inr (.inl e)))), fun u hu => RowAt.kept (h.each u hu) hk (fun k e => hn k (.inr (.inr (.inr ⟨u, hu, e⟩)))), h.apart⟩
theorem RungsOf.below (h : RungsOf w rb most bv B av us) (hb : Below w.heap.size w w') : RungsOf w' rb most bv B av us := h.kept (S := fun _ => False) (.of_below hb) (fun _ _ e => e)
end

theorem RungsOf.oneU {w : World} {rb : Nat} {most : Int} {bv av : Value} {B : List M} {us : List Up} (h : RungsOf w rb most bv B av us) : OneU us := fun u hu => by
  obtain ⟨a, c, e, _⟩ := RowAt.shape (h.each u hu)
  rw [e]
  rfl
/-- What a step of the rungs leaves: these, in blocks of theirs or new ones. -/
def RungsRes (w : World) (rb : Nat) (most : Int) (bv av : Value) (us : List Up) (w' : World) (B' : List M) (us' : List Up) (bv' av' : Value) : Prop :=
  RungsOf w' rb most bv' B' av' us' ∧ KeptOff (ROwn rb bv av us) w w' ∧ ∀ k, ROwn rb bv' av' us' k → ROwn rb bv av us k ∨ w.heap.size ≤ k

/-! One of a list replaced. -/
theorem pairwise_turn {α : Type} {R : α → α → Prop} (hs : ∀ a b, R a b → R b a) : ∀ (X : List α) (u u' : α) (Y : List α), (X ++ u :: Y).Pairwise R → (∀ x ∈ X ++ Y, R x u') → (X ++ u' :: Y).Pairwise R
  | [], u, u', Y, h, hx => by
    have h' := List.pairwise_cons.1 h
    exact List.pairwise_cons.2 ⟨fun y hy => hs _ _ (hx y hy), h'.2⟩
  | a :: X, u, u', Y, h, hx => by
    have h' := List.pairwise_cons.1 h
    refine List.pairwise_cons.2 ⟨fun y hy => ?_, pairwise_turn hs X u u' Y h'.2 (fun x hx' => hx x (List.mem_cons_of_mem _ hx'))⟩
    rcases List.mem_append.1 hy with hy | hy
    · exact h'.1 y (List.mem_append_left _ hy)
    · rcases List.mem_cons.1 hy with rfl | hy
      · exact hx a (List.mem_cons_self ..)
      · exact h'.1 y (List.mem_append_right _ (List.mem_cons_of_mem _ hy))
theorem pairwise_other {α : Type} {R : α → α → Prop} (hs : ∀ a b, R a b → R b a) : ∀ (X : List α) (u : α) (Y : List α), (X ++ u :: Y).Pairwise R → ∀ x ∈ X ++ Y, R x u
  | [], u, Y, h, x, hx => hs _ _ ((List.pairwise_cons.1 h).1 x hx)
  | a :: X, u, Y, h, x, hx => by
    have h' := List.pairwise_cons.1 h
    rcases List.mem_cons.1 hx with rfl | hx
    · exact h'.1 u (List.mem_append_right _ (List.mem_cons_self ..))
    · exact pairwise_other hs X u Y h'.2 x hx
theorem dis_new {v v' x : Value} {n : Nat} (h : Dis x v) (h4 : ∀ k q, vext v' 7 k q → vext v 7 k q ∨ n ≤ k) (hx : ∀ k, x.ownBlock = some k → k < n) : Dis x v' := fun k q a b => by
  rcases h4 k q b with e | e
  · exact h k q a e
  · have := hx k a.own
    omega

/-- A step of the bottom's list. -/
theorem RungsOf.setBot {w w' : World} {rb : Nat} {most : Int} {bv av : Value} {B l' : List M} {us : List Up} (h : RungsOf w rb most bv B av us) (hr : RungRes w rb 0 bv l' w') : ∃ bv', RungsRes w rb most bv av us w' l' us bv' av := by
  obtain ⟨v', h1, h2, h3, h4, h5⟩ := hr
  have hb : ∀ k q, (vext bv 7 k q ∨ (k = rb ∧ q = 0)) → k = rb ∨ bv.ownBlock = some k := fun k q e => e.elim (fun e => .inr e.own) (fun e => .inl e.1)
  have hrow : w'.heap[rb]? = some (.cells #[v', .int .i64 most, av] 82 (0, 0)) := by
    obtain ⟨cur, g0, g1, g2⟩ := h3.part rb _ _ h.row
    have hn : ∀ o, o ≠ 0 → ¬ (vext bv 7 rb o ∨ (rb = rb ∧ o = 0)) := fun o ho e => e.elim (fun e => h.msg_rb h.bot e.own rfl) (fun e => ho e.2)
    have a0 : cur[0]? = some v' := by rw [← h1, cell_of_row _ _ _ _ _ (0, 0) g0]
    have a1 : cur[1]? = some (.int .i64 most) := by rw [g2 1 (hn 1 (by omega))]; rfl
    have a2 : cur[2]? = some av := by rw [g2 2 (hn 2 (by omega))]; rfl
    have e : cur = #[v', .int .i64 most, av] := by
      obtain ⟨l⟩ := cur
      match l, g1, a0, a1, a2 with
      | [x, y, z], _, a0, a1, a2 =>
        simp at a0 a1 a2
        subst a0 a1 a2
        rfl
    rw [g0, e]
  have hoff : ∀ {u : Up}, u ∈ us → ∀ k o, vext u.v 7 k o → ¬ (vext bv 7 k o ∨ (k = rb ∧ o = 0)) := fun {u} hu k o e e2 => by
    rcases e2 with e2 | e2
    · exact (List.pairwise_cons.1 h.apart).1 u.v (List.mem_map_of_mem hu) k o e2 e
    · exact h.msg_rb (h.each u hu) e.own e2.1
  refine ⟨v', ⟨hrow, h2, ?_, fun u hu => RowAt.keptC (h.each u hu) h3 (hoff hu), ?_⟩, h3.off (fun k o _ e => (hb k o e).elim .inl (fun e => .inr (.inl e))), ?_⟩
  · refine RowAt.keptC h.abv h3 (fun k o e e2 => ?_)
    rcases e2 with e2 | e2
    · exact h.av_msg h.bot e2.own e.own
    · exact h.av_rb e.own e2.1
  · have := pairwise_turn (R := Dis) (fun _ _ h => h.symm) [] bv v' (us.map Up.v) h.apart (fun x hx => ?_)
    · exact this
    · obtain ⟨u, hu, rfl⟩ := List.mem_map.1 hx
      exact dis_new ((List.pairwise_cons.1 h.apart).1 u.v hx).symm h4 (RowAt.lt (h.each u hu))
  · rintro k (e | e | e | e)
    · exact .inl (.inl e)
    · exact (h5 k e).imp (fun e => .inr (.inl e)) id
    · exact .inl (.inr (.inr (.inl e)))
    · exact .inl (.inr (.inr (.inr e)))

theorem get_behind {α : Type} (X Y : List α) (k : Nat) : (X ++ Y)[X.length + k]? = Y[k]? := by rw [List.getElem?_append_right (by omega), Nat.add_sub_cancel_left]
theorem flatU_turn (X : List Up) (u u' : Up) (Y : List Up) (hf : u'.foot = u.foot) (j : Nat) : (flatU (X ++ u' :: Y))[j]? = if j = X.length * 8 then some u'.v else (flatU (X ++ u :: Y))[j]? := by
  have e1 : ∀ x : Up, flatU (X ++ x :: Y) = flatU X ++ (encU x ++ flatU Y) := fun x => by rw [show x :: Y = [x] ++ Y from rfl, flatU_append, flatU_append]; simp [flatU]
  have hl := flatU_length X
  rw [e1, e1]
  by_cases h1 : j < X.length * 8
  · rw [if_neg (by omega), List.getElem?_append_left (by omega), List.getElem?_append_left (by omega)]
  · obtain ⟨k, rfl⟩ : ∃ k, j = (flatU X).length + k := ⟨j - (flatU X).length, by omega⟩
    rw [get_behind, get_behind]
    cases k with
    | zero => rw [if_pos (by omega)]; rfl
    | succ k =>
      rw [if_neg (by omega)]
      show (encM u'.foot ++ flatU Y)[k]? = (encM u.foot ++ flatU Y)[k]?
      rw [hf]
/-- A step of the list of one rung above. -/
theorem RungsOf.setUp {w w' : World} {rb : Nat} {most : Int} {bv : Value} {B l' : List M} {X Y : List Up} {u : Up} {ag aoff n acap : Nat} (h : RungsOf w rb most bv B (.slice (some ⟨ag, aoff, none⟩) n acap) (X ++ u :: Y)) (hr : RungRes w ag (aoff + X.length * 8) u.v l' w') :
    ∃ v', RungsRes w rb most bv (.slice (some ⟨ag, aoff, none⟩) n acap) (X ++ u :: Y) w' B (X ++ ⟨v', l', u.foot⟩ :: Y) bv (.slice (some ⟨ag, aoff, none⟩) n acap) := by
  obtain ⟨v', h1, h2, h3, h4, h5⟩ := hr
  have hu : u ∈ X ++ u :: Y := List.mem_append_right _ (List.mem_cons_self ..)
  have hin : ∀ x ∈ X ++ Y, x ∈ X ++ u :: Y := fun x hx => (List.mem_append.1 hx).elim (List.mem_append_left _) (fun e => List.mem_append_right _ (List.mem_cons_of_mem _ e))
  have hav : ∀ {v : Value} {l : List M}, AtM w v l → ∀ k o, vext v 7 k o → k ≠ ag := fun {v l} hv k o e e2 => h.av_msg hv e.own (by rw [e2]; rfl)
  have hap := h.apart
  rw [List.map_append, List.map_cons, ← List.cons_append] at hap
  have hoth := pairwise_other (R := Dis) (fun _ _ h => h.symm) (bv :: X.map Up.v) u.v (Y.map Up.v) hap
  have hblk : ∀ k, (vext u.v 7 k k ∨ True) → True := fun _ _ => trivial
  have hE : ∀ k o, (vext u.v 7 k o ∨ (k = ag ∧ o = aoff + X.length * 8)) → k = ag ∨ u.v.ownBlock = some k := fun k o e => e.elim (fun e => .inr e.own) (fun e => .inl e.1)
  have hotherU : ∀ x ∈ X ++ Y, Dis x.v u.v := fun x hx => hoth x.v (by
    rcases List.mem_append.1 hx with e | e
    · exact List.mem_append_left _ (List.mem_cons_of_mem _ (List.mem_map_of_mem e))
    · exact List.mem_append_right _ (List.mem_map_of_mem e))
  have hbot : Dis bv u.v := hoth bv (List.mem_append_left _ (List.mem_cons_self ..))
  have hlen : (X ++ (⟨v', l', u.foot⟩ : Up) :: Y).length = (X ++ u :: Y).length := by simp
  refine ⟨v', ⟨?_, ?_, ?_, fun x hx => ?_, ?_⟩, h3.off (fun k o _ e => (hE k o e).elim (fun e => .inr (.inr (.inl (by rw [e]; rfl)))) (fun e => .inr (.inr (.inr ⟨u, hu, e⟩)))), ?_⟩
  · exact (h3.block rb h.rlt (fun o e => (hE _ _ e).elim (fun e => h.av_rb (k := ag) rfl e.symm) (fun e => h.msg_rb (h.each u hu) e rfl))).trans h.row
  · exact RowAt.keptC h.bot h3 (fun k o e e2 => e2.elim (fun e2 => hbot k o e e2) (fun e2 => hav h.bot k o e e2.1))
  · have habv := h.abv
    unfold AtU at habv ⊢
    rw [hlen]
    rcases habv with ⟨e, _⟩ | ⟨g, off, cap, he, cur, g0, g1, g2, g3, g4, g5⟩
    · cases e
    · obtain ⟨⟨rfl, rfl⟩, rfl, rfl⟩ : ((ag = g ∧ aoff = off) ∧ n = (X ++ u :: Y).length ∧ acap = cap) := by simpa using he
      obtain ⟨cur', q0, q1, q2⟩ := h3.part ag cur _ g0
      refine .inr ⟨ag, aoff, acap, by simp, cur', q0, g1, g2, by omega, by rw [flatU_length, hlen], fun j x hj => ?_⟩
      rw [flatU_turn X u ⟨v', l', u.foot⟩ Y rfl] at hj
      by_cases hjx : j = X.length * 8
      · rw [if_pos hjx] at hj
        rw [hjx, ← hj, ← cell_of_row _ _ _ _ _ (0, 0) q0]
        exact h1
      · rw [if_neg hjx] at hj
        rw [q2 (aoff + j) (fun e => e.elim (fun e => hav (h.each u hu) _ _ e rfl) (fun e => by omega))]
        exact g5 j x hj
  · rcases List.mem_append.1 hx with e | e
    · exact RowAt.keptC (h.each x (hin x (List.mem_append_left _ e))) h3 (fun k o e1 e2 => e2.elim (fun e2 => hotherU x (List.mem_append_left _ e) k o e1 e2) (fun e2 => hav (h.each x (hin x (List.mem_append_left _ e))) k o e1 e2.1))
    · rcases List.mem_cons.1 e with rfl | e
      · exact h2
      · exact RowAt.keptC (h.each x (hin x (List.mem_append_right _ e))) h3 (fun k o e1 e2 => e2.elim (fun e2 => hotherU x (List.mem_append_right _ e) k o e1 e2) (fun e2 => hav (h.each x (hin x (List.mem_append_right _ e))) k o e1 e2.1))
  · rw [List.map_append, List.map_cons, ← List.cons_append]
    refine pairwise_turn (R := Dis) (fun _ _ h => h.symm) (bv :: X.map Up.v) u.v v' (Y.map Up.v) hap (fun x hx => ?_)
    rw [List.cons_append] at hx
    rcases List.mem_cons.1 hx with rfl | hx
    · exact dis_new hbot h4 (RowAt.lt h.bot)
    · rw [← List.map_append] at hx
      obtain ⟨y, hy, rfl⟩ := List.mem_map.1 hx
      exact dis_new (hotherU y hy) h4 (RowAt.lt (h.each y (hin y hy)))
  · rintro k (e | e | e | ⟨x, hx, e⟩)
    · exact .inl (.inl e)
    · exact .inl (.inr (.inl e))
    · exact .inl (.inr (.inr (.inl e)))
    · rcases List.mem_append.1 hx with hx | hx
      · exact .inl (.inr (.inr (.inr ⟨x, List.mem_append_left _ hx, e⟩)))
      · rcases List.mem_cons.1 hx with rfl | hx
        · exact (h5 k e).imp (fun e => .inr (.inr (.inr ⟨u, hu, e⟩))) id
        · exact .inl (.inr (.inr (.inr ⟨x, List.mem_append_right _ (List.mem_cons_of_mem _ hx), e⟩)))
end Go.Proofs.Ytcfpfbemmklbaaa
