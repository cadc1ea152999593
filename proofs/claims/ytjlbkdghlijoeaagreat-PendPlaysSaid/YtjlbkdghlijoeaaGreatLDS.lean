/-
  Rungs: the end of one; a message taken out at its place.
-/
import Derived.Test.YtjlbkdghlijoeaaGreatLDR
namespace Go.Proofs.YtjlbkdghlijoeaaGreat
open Go.ChangeShapes Go.WideShapes Go.ChangeAt Go.Shelf Go.RowKit Go.Lib Go.Sort Go.Deep
set_option linter.unusedVariables false

/-! Plain lists. -/
theorem erase_perm' {l : List M} {p : Nat} (hp : p < l.length) : (l.getD p default :: l.eraseIdx p).Perm l := by
  rw [getD_at l p hp]
  exact erase_perm hp
theorem Stairs.cutUp {B : List M} {X Y : List Up} {u : Up} {p : Nat} (h : Stairs B (X ++ u :: Y)) (hp : p < u.L.length) (hne : u.L.eraseIdx p ≠ []) (v' : Value) :
    Stairs B (X ++ ⟨v', u.L.eraseIdx p, u.foot⟩ :: Y) ∧ (u.L.getD p default :: held B (X ++ ⟨v', u.L.eraseIdx p, u.foot⟩ :: Y)).Perm (held B (X ++ u :: Y)) := by
  have hu : u ∈ X ++ u :: Y := List.mem_append_right _ (List.mem_cons_self ..)
  obtain ⟨h1, h2, h3⟩ := h.up.mid
  have hin : ∀ m ∈ u.L.eraseIdx p, m ∈ u.L := fun m hm => (List.eraseIdx_sublist ..).subset hm
  refine ⟨⟨h.bot, fun x hx b hb => ?_, h.up.turn rfl (fun m hm => h.up.own u hu m (hin m hm)) (fun x hx m hm => (h1 x hx).1 m (hin m hm)) hne, fun e => absurd (h.some e) (by simp)⟩, ?_⟩
  · rcases List.mem_append.1 hx with e | e
    · exact h.low x (List.mem_append_left _ e) b hb
    · rcases List.mem_cons.1 e with rfl | e
      · exact h.low u hu b hb
      · exact h.low x (List.mem_append_right _ (List.mem_cons_of_mem _ e)) b hb
  · refine ((held_mid B X Y _).cons _).trans ?_
    refine List.Perm.trans ?_ (held_mid B X Y u).symm
    show ((u.L.getD p default :: u.L.eraseIdx p) ++ held B (X ++ Y)).Perm _
    exact (erase_perm' hp).append_right _
theorem Stairs.endUp {B : List M} {X Y : List Up} {u : Up} {p : Nat} (h : Stairs B (X ++ u :: Y)) (hp : p < u.L.length) (he : u.L.eraseIdx p = []) :
    Stairs B (X ++ Y) ∧ (u.L.getD p default :: held B (X ++ Y)).Perm (held B (X ++ u :: Y)) := by
  obtain ⟨h1, h2, h3⟩ := h.up.mid
  refine ⟨⟨h.bot, fun x hx b hb => h.low x ?_ b hb, h3, fun e => absurd (h.some e) (by simp)⟩, ?_⟩
  · exact (List.mem_append.1 hx).elim (List.mem_append_left _) (fun e => List.mem_append_right _ (List.mem_cons_of_mem _ e))
  · refine List.Perm.trans ?_ (held_mid B X Y u).symm
    have := erase_perm' hp
    rw [he] at this
    exact this.append_right (held B (X ++ Y))
theorem Stairs.cutBot {B : List M} {us : List Up} {p : Nat} (h : Stairs B us) (hp : p < B.length) (hne : B.eraseIdx p ≠ []) : Stairs (B.eraseIdx p) us ∧ (B.getD p default :: held (B.eraseIdx p) us).Perm (held B us) :=
  ⟨⟨List.Pairwise.sublist (List.eraseIdx_sublist ..) h.bot, fun x hx b hb => h.low x hx b ((List.eraseIdx_sublist ..).subset hb), h.up, fun e => absurd e hne⟩, (erase_perm' hp).append_right _⟩
theorem Stairs.endBot {B : List M} {us : List Up} {p : Nat} (h : Stairs B us) (hp : p < B.length) (he : B.eraseIdx p = []) : (B.getD p default :: held [] us).Perm (held B us) := by
  have := erase_perm' hp
  rw [he] at this
  exact this.append_right (us.flatMap Up.L)
theorem Unlike.rest {m : M} {A T : List M} (h : Unlike T) (hp : (m :: A).Perm T) : Unlike A := (List.pairwise_cons.1 (h.perm hp.symm)).2

/-! The end of a rung. -/
set_option maxHeartbeats 4000000 in
set_option maxRecDepth 100000 in
theorem end_up {w : World} {rb : Nat} {most : Int} {bv av : Value} {B : List M} {X Y : List Up} {u : Up} (h : RungsOf w rb most bv B av (X ++ u :: Y)) (hl : (X ++ u :: Y).length < 1000000) :
    Calls Tryz.prog 141 #[.pointer (some ⟨rb, 0, none⟩), .int .i64 X.length] w fun e w' => e = .returned (.tuple #[]) ∧ ∃ av', RungsRes w rb most bv av (X ++ u :: Y) w' B (X ++ Y) bv av' := by
  have hXl : X.length < (X ++ u :: Y).length := by simp
  obtain ⟨ag, aoff, acap, rfl, hRU⟩ := AtU.form h.abv (by omega)
  have hdel := Lib.hid (delU_any hRU h.oneU X.length hXl hl)
  have c2 := h.c2
  have hlen : (X ++ u :: Y).length - 1 = (X ++ Y).length := by simp
  have her : (X ++ u :: Y).eraseIdx X.length = X ++ Y := by
    rw [List.eraseIdx_append_of_length_le (Nat.le_refl _), Nat.sub_self]
    rfl
  have hin : ∀ x ∈ X ++ Y, x ∈ X ++ u :: Y := fun x hx => (List.mem_append.1 hx).elim (List.mem_append_left _) (fun e => List.mem_append_right _ (List.mem_cons_of_mem _ e))
  have hst : Hid (∀ w4, Hid (RowU w4 ag aoff acap ((X ++ u :: Y).eraseIdx X.length)) → Hid (KeptC (ext ag aoff (acap * 8)) w w4) → w4.cell? ⟨rb, 2, none⟩ = some (.slice (some ⟨ag, aoff, none⟩) (X ++ u :: Y).length acap) ∧ w4.frozen? ⟨rb, 2, none⟩ = false ∧
      Hid (∃ av', RungsRes w rb most bv (.slice (some ⟨ag, aoff, none⟩) (X ++ u :: Y).length acap) (X ++ u :: Y) (w4.setCell ⟨rb, 2, none⟩ (.slice (some ⟨ag, aoff, none⟩) ((X ++ u :: Y).length - 1) acap)) B (X ++ Y) bv av')) := by
    intro w4 r1 r2
    have hk : KeptC (vext (.slice (some ⟨ag, aoff, none⟩) (X ++ u :: Y).length acap) 8) w w4 := r2.out.mono (fun k o _ e => vext_some.2 e)
    obtain ⟨q1, q2⟩ := cell_keptC h.row h.c2 hk (fun e => h.av_rb e.own rfl)
    refine ⟨q1, q2, .slice (some ⟨ag, aoff, none⟩) ((X ++ u :: Y).length - 1) acap, ?_⟩
    refine h.setAv hk ?_ (fun k e => .inl e) (fun x hx => h.each x (hin x hx)) ?_ (fun x hx k e => .inr ⟨x, hin x hx, e⟩)
    · have := r1.out
      rw [her] at this
      rw [hlen]
      exact RowIn.at_ this
    · have := h.apart
      rw [List.map_append, List.map_cons, ← List.cons_append] at this
      rw [List.map_append, ← List.cons_append]
      exact List.Pairwise.sublist (List.Sublist.append_left (List.sublist_cons_self ..) _) this
  have hXI : (X.length : Int) < ((X ++ u :: Y).length : Int) := by omega
  have hw1 : IntKind.i64.wrap ((X.length : Int) + 1) = (X.length : Int) + 1 := IntWalk.i64_in _ (by omega)
  clear h hRU hlen her hin hl hXl
  generalize RungsRes w rb most bv (.slice (some ⟨ag, aoff, none⟩) (X ++ u :: Y).length acap) (X ++ u :: Y) = R at *
  generalize (X ++ u :: Y).eraseIdx X.length = E at *
  generalize (X ++ u :: Y).length = n at *
  go_enter Tryz.func141, Tryz.ntmps141
  go_wp2_with (go_at_call 146; refine hdel.out.mono ?_; rintro e w4 ⟨rfl, r1, r2⟩; obtain ⟨q1, q2, hR⟩ := hst.out w4 r1 r2; clear r1 r2)
  go_end0
  exact ⟨rfl, hR.out⟩
set_option maxHeartbeats 4000000 in
set_option maxRecDepth 100000 in
theorem end_none {w : World} {rb n acap : Nat} {a : Option Addr} (hn : n = 0) (c2 : w.cell? ⟨rb, 2, none⟩ = some (.slice a n acap)) :
    Calls Tryz.prog 141 #[.pointer (some ⟨rb, 0, none⟩), .int .i64 n] w fun e w' => e = .returned (.tuple #[]) ∧ w = w' := by
  subst hn
  go_enter Tryz.func141, Tryz.ntmps141
  go_wp2
  go_end0
  exact ⟨rfl, rfl⟩
set_option maxHeartbeats 4000000 in
set_option maxRecDepth 100000 in
theorem end_bot {w : World} {rb : Nat} {most : Int} {bv av : Value} {us : List Up} (h : RungsOf w rb most bv [] av us) (hS : Steps us) (hU : Unlike (held [] us)) (hm1 : 1 ≤ most) (hl : (held [] us).length < 300000) :
    Calls Tryz.prog 141 #[.pointer (some ⟨rb, 0, none⟩), .int .i64 us.length] w fun e w' => e = .returned (.tuple #[]) ∧ Spilt w rb most bv av us [] (held [] us) w' := by
  obtain ⟨a, acap, rfl, -⟩ := RowAt.shape h.abv
  have c2 := h.c2
  rcases List.eq_nil_or_concat us with rfl | ⟨X, u, rfl⟩
  · refine (end_none rfl c2).mono ?_
    rintro e w' ⟨he, rfl⟩
    exact ⟨he, [], [], _, _, RungsRes.refl h, ⟨List.Pairwise.nil, fun x hx => (by cases hx), Steps.nil, fun _ => rfl⟩, List.Perm.refl _⟩
  · simp only [List.concat_eq_append] at *
    have hre := Lib.hid (refill_any h hS hU hm1 hl [])
    have hn : ((X ++ [u]).length : Int) > 0 := by simp
    have hnn : ¬ ((X ++ [u]).length : Int) < ((X ++ [u]).length : Int) := by omega
    have hn0 : ¬ ((X ++ [u]).length : Int) ≤ 0 := by omega
    clear h hS hU hl hm1
    generalize Spilt w rb most bv (.slice a (X ++ [u]).length acap) (X ++ [u]) [] (held [] (X ++ [u])) = R at *
    generalize (X ++ [u]).length = n at *
    go_enter Tryz.func141, Tryz.ntmps141
    go_wp2_with (go_at_call 119; refine hre.out.mono ?_; rintro e w4 ⟨rfl, hR⟩; have hR := Lib.hid hR)
    go_end0
    exact ⟨rfl, hR.out⟩
end Go.Proofs.YtjlbkdghlijoeaaGreat
