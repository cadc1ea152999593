/-
  Rungs: the bottom's later half let up.
-/
import Derived.Test.YtcfpfbemmklbaaaLDL
import Derived.BigQuiet
import Derived.Deep.RegionHeld3
namespace Go.Proofs.Ytcfpfbemmklbaaa
open Go.ChangeShapes Go.WideShapes Go.ChangeAt Go.Shelf Go.RowKit Go.Lib Go.Sort Go.Deep
set_option linter.unusedVariables false

theorem wpList_store_run {P : Program} {w : World} {ops : Array Oper} {rest : List Oper} {o : Oper} {a : Act} {Q : Exit → Act → World → Prop} (hgd : o.guard = none) (ty : TypeId) (x y : Operand) (ho : o.op = .store ty x y) (p : Addr) (u : Value)
    (hx : a.eval x = .pointer (some p)) (hy : a.eval y = u) {w' : World} (hrun : (storeVar ty p u).run P w = .ok () w') (hK : wpList P ops Q rest (a.put o.dst undef) w') : wpList P ops Q (o :: rest) a w := by
  refine wpList_plain hgd fun K' hK' => ?_
  unfold Oper.wp execOp
  simp only [ho, hx, hy, Instr.storeAt, Instr.sureAddr, Sem.run_bind, Sem.run_pure, Result.andThen_ok, hrun]
  exact hK' _ _ hK
theorem held_len (B : List M) (us : List Up) : B.length ≤ (held B us).length := by unfold held; rw [List.length_append]; omega
theorem held_mem {B : List M} {us : List Up} {u : Up} (h : u ∈ us) : u.L.length ≤ (held B us).length := by
  obtain ⟨X, Y, rfl⟩ := List.append_of_mem h
  have := (held_mid B X Y u).length_eq
  rw [List.length_append] at this
  omega
theorem held_rungs {B : List M} : ∀ {us : List Up}, (∀ u ∈ us, u.L ≠ []) → us.length ≤ (held B us).length
  | [], _ => by simp
  | u :: us, h => by
    have h1 := held_rungs (B := B) (us := us) (fun x hx => h x (List.mem_cons_of_mem _ hx))
    have h2 := (held_mid B [] us u).length_eq
    have h3 : 0 < u.L.length := List.length_pos_iff.2 (h u (List.mem_cons_self ..))
    rw [List.length_append] at h2
    simp only [List.nil_append] at h2
    rw [List.length_cons]
    omega
/-- What a spill leaves, behind the world W. -/
def Spilt (w : World) (rb : Nat) (most : Int) (bv av : Value) (us : List Up) (B : List M) (Bw : List M) (w' : World) : Prop := ∃ B' us' bv' av', RungsRes w rb most bv av us w' B' us' bv' av' ∧ Stairs B' us' ∧ (held B' us').Perm Bw
/-- The facts for the rest of spill. -/
def SpillRest (W : World) (rb : Nat) (most : Int) (g off cap ag aoff acap : Nat) (B : List M) (half : Nat) (X : List Up) (u : Up) (R : World → Prop) : Prop :=
  RowAt W.drew 34 7 u.v u.L.length (flat u.L) ∧
  RowAt W.drew 34 7 (.slice (some ⟨g, off + half * 7, none⟩) (B.length - half) (cap - half)) (B.length - half) (flat (B.drop (half))) ∧
  ∀ v' w4, Hid (RowAt w4 34 7 v' (u.L.length + (B.length - half)) (flat u.L ++ flat (B.drop (half)))) → Hid (KeptC (vext u.v 7) W.drew w4) → Hid (∀ k q, vext v' 7 k q → vext u.v 7 k q ∨ W.drew.heap.size ≤ k) →
    w4.cell? ⟨rb, 0, none⟩ = some (.slice (some ⟨g, off, none⟩) B.length cap) ∧ w4.cell? ⟨ag, aoff + X.length * 8, none⟩ = some u.v ∧ w4.frozen? ⟨ag, aoff + X.length * 8, none⟩ = false ∧ Hid (∃ W5, W5 = w4.setCell ⟨ag, aoff + X.length * 8, none⟩ v' ∧ W5.cell? ⟨rb, 0, none⟩ = some (.slice (some ⟨g, off, none⟩) B.length cap) ∧ MsgAt W5 g (off + half * 7) (B.getD (half) default) ∧
      ∃ w6, (storeVar 34 ⟨ag, aoff + X.length * 8 + 1, none⟩ (B.getD (half) default).val).run Try.prog W5 = .ok () w6 ∧ w6.cell? ⟨rb, 0, none⟩ = some (.slice (some ⟨g, off, none⟩) B.length cap) ∧ w6.frozen? ⟨rb, 0, none⟩ = false ∧
        R (w6.setCell ⟨rb, 0, none⟩ (.slice (some ⟨g, off, none⟩) (half) cap)))
theorem spill_rest {W : World} {rb : Nat} {most : Int} {g off cap ag aoff n acap : Nat} {B : List M} {X : List Up} {u : Up} (h : RungsOf W rb most (.slice (some ⟨g, off, none⟩) B.length cap) B (.slice (some ⟨ag, aoff, none⟩) n acap) (X ++ [u])) {half : Nat} (hh : half = (B.length + 1) / 2) (hB : 2 ≤ B.length) :
    SpillRest W rb most g off cap ag aoff acap B half X u (fun w' => ∃ v' bv', RungsRes W rb most (.slice (some ⟨g, off, none⟩) B.length cap) (.slice (some ⟨ag, aoff, none⟩) n acap) (X ++ [u]) w' (B.take (half)) (X ++ [⟨v', u.L ++ B.drop (half), B.getD (half) default⟩]) bv' (.slice (some ⟨ag, aoff, none⟩) n acap)) := by
  have h1 : 1 ≤ half := by omega
  have h2 : half < B.length := by omega
  unfold SpillRest
  have hR : RowM W g off cap B := by
    rcases h.bot with ⟨e, _⟩ | ⟨g', off', cap', e, hR⟩
    · cases e
    · cases e
      exact hR
  have hb := RowIn.bounds hR
  have hu : u ∈ X ++ [u] := List.mem_append_right _ (List.mem_cons_self ..)
  have hd : Below W.heap.size W W.drew := (Below.refl _ W).drew
  have hag : ∃ cs, W.heap[ag]? = some (.cells cs 90 (0, 0)) := RowAt.tag h.abv rfl
  obtain ⟨cs, hag⟩ := hag
  have hslot : W.cell? ⟨ag, aoff + X.length * 8, none⟩ = some u.v := by
    obtain ⟨g', off', cap', e, hRU⟩ := AtU.form h.abv (by simp)
    cases e
    have := hRU.slot X.length (by simp)
    rw [this]
    congr 1
    simp [List.getD_eq_getElem?_getD]
  have hvag : ¬ vext u.v 7 ag (aoff + X.length * 8) := fun e => h.av_msg (h.each u hu) e.own rfl
  refine ⟨RowAt.below (h.each u hu) hd, ?_, fun v' w4 r1 r2 r3 => ?_⟩
  · have := RowIn.part (RowIn.block hR (w' := W.drew) rfl) half (B.length - half) (by omega)
    rw [← flat_drop, List.take_of_length_le (by rw [flat_length, List.length_drop]; omega)] at this
    exact this.at_
  · have hA4 : AtM w4 v' (u.L ++ B.drop half) := by
      unfold AtM
      rw [List.length_append, List.length_drop, flat_append]
      exact r1.out
    have k4 : KeptC (vext u.v 7) W w4 := r2.out.undrew
    obtain ⟨q1, q2⟩ := cell_keptC hag hslot k4 hvag
    have hr := rung_set hag (cell_in_row hag hslot) hvag hA4 k4 r3.out (own_of_ext hA4 (by rw [List.length_append, List.length_drop]; omega) r3.out)
    obtain ⟨v2, hres⟩ := h.setUp hr
    have q0 : w4.cell? ⟨rb, 0, none⟩ = some (.slice (some ⟨g, off, none⟩) B.length cap) := (cell_keptC h.row h.c0 k4 (fun e => h.msg_rb (h.each u hu) e.own rfl)).1
    refine ⟨q0, q1, q2, _, rfl, ?_⟩
    generalize w4.setCell ⟨ag, aoff + X.length * 8, none⟩ v' = W5 at hres
    have h5 := hres.1
    have hR5 : RowM W5 g off cap B := by
      rcases h5.bot with ⟨e, _⟩ | ⟨g', off', cap', e, hR⟩
      · cases e
      · cases e
        exact hR
    obtain ⟨w6, hrun, hres6⟩ := h5.setFoot (B.getD half default)
    have h6 := hres6.1
    have hR6 : RowM w6 g off cap B := by
      rcases h6.bot with ⟨e, _⟩ | ⟨g', off', cap', e, hR⟩
      · cases e
      · cases e
        exact hR
    refine ⟨h5.c0, hR5.at half h2, w6, hrun, h6.c0, h6.fz 0, ?_⟩
    have ht : AtM w6 (.slice (some ⟨g, off, none⟩) half cap) (B.take half) := by
      have := RowIn.part hR6 0 half (by omega)
      rw [Nat.zero_mul, List.drop_zero, ← flat_take, Nat.add_zero, Nat.sub_zero] at this
      unfold AtM
      rw [List.length_take, Nat.min_eq_left (by omega)]
      exact this.at_
    have hbv : ¬ vext (.slice (some ⟨g, off, none⟩) B.length cap) 7 rb 0 := fun e => h6.msg_rb h6.bot e.own rfl
    have hr6 := rung_set h6.row (by simp) hbv ht (KeptC.refl _ _) (fun k q e => .inl (vext_some.2 (vext_some.1 e))) (fun k e => .inl e)
    obtain ⟨bv', hres7⟩ := h6.setBot hr6
    exact ⟨v2, bv', (hres.trans hres6).trans hres7⟩

/-- One more rung above. -/
theorem RungsOf.pushAv {w w4 : World} {rb : Nat} {most : Int} {bv av av' : Value} {B : List M} {us : List Up} {u : Up} (h : RungsOf w rb most bv B av us) (r1 : RowAt w4 90 8 av' (us.length + 1) (flatU us ++ flatU [u])) (hk : KeptC (vext av 8) w w4) (r3 : ∀ k q, vext av' 8 k q → vext av 8 k q ∨ w.heap.size ≤ k)
    (hu : AtM w u.v u.L) (hd : ∀ x ∈ bv :: us.map Up.v, Dis x u.v) : RungsOf (w4.setCell ⟨rb, 2, none⟩ av') rb most bv B av' (us ++ [u]) ∧ KeptOff (ROwn rb bv av us) w (w4.setCell ⟨rb, 2, none⟩ av') ∧ ∀ k, ROwn rb bv av' (us ++ [u]) k → ROwn rb bv av us k ∨ w.heap.size ≤ k ∨ u.v.ownBlock = some k := by
  have hv : AtU w4 av' (us ++ [u]) := by
    unfold AtU
    rw [List.length_append, flatU_append]
    exact r1
  have hx : ∀ k, av'.ownBlock = some k → av.ownBlock = some k ∨ w.heap.size ≤ k := fun k hk' => by
    obtain ⟨g, off, cap, rfl, hR⟩ := AtU.form hv (by simp)
    simp [Value.ownBlock] at hk'
    subst hk'
    have := RowIn.bounds hR
    rw [List.length_append, List.length_singleton] at this
    exact (r3 g off (vext_some.2 ⟨rfl, Nat.le_refl _, by omega⟩)).imp (fun e => e.own) id
  have heach : ∀ x ∈ us ++ [u], AtM w x.v x.L := fun x hx' => (List.mem_append.1 hx').elim (fun e => h.each x e) (fun e => by rw [List.mem_singleton.1 e]; exact hu)
  have hap : (bv :: (us ++ [u]).map Up.v).Pairwise Dis := by
    rw [List.map_append, ← List.cons_append]
    exact List.pairwise_append.2 ⟨h.apart, List.pairwise_singleton _ _, fun x hx y hy => by rw [List.mem_singleton.1 hy]; exact hd x hx⟩
  have hrb : ∀ o, ¬ vext av 8 rb o := fun o e => h.av_rb e.own rfl
  have hrow4 : w4.heap[rb]? = some (.cells #[bv, .int .i64 most, av] 82 (0, 0)) := (hk.block rb h.rlt hrb).trans h.row
  have ks := KeptC.set hrow4 2 av'
  have hall : KeptC (fun k q => vext av 8 k q ∨ (k = rb ∧ q = 2)) w (w4.setCell ⟨rb, 2, none⟩ av') := (hk.mono (fun _ _ _ e => .inl e)).then_new ks (fun k q _ e => .inr e)
  have hmsg : ∀ {v : Value} {l : List M}, AtM w v l → ∀ k o, vext v 7 k o → ¬ (vext av 8 k o ∨ (k = rb ∧ o = 2)) := fun {v l} hv k o e e2 => e2.elim (fun e2 => h.av_msg hv e.own e2.own) (fun e2 => h.msg_rb hv e.own e2.1)
  refine ⟨⟨?_, RowAt.keptC h.bot hall (hmsg h.bot), RowAt.keptC hv ks (fun k o e e2 => ?_), fun u hu => RowAt.keptC (heach u hu) hall (hmsg (heach u hu)), hap⟩, hall.off (fun k o _ e => e.elim (fun e => .inr (.inr (.inl e.own))) (fun e => .inl e.1)), ?_⟩
  · rw [heap_setCell_same w4 rb 2 _ _ av' hrow4]
    rfl
  · have := h.rlt
    rcases hx k e.own with e3 | e3
    · exact h.av_rb e3 e2.1
    · omega
  · rintro k (e | e | e | ⟨x, hx', e⟩)
    · exact .inl (.inl e)
    · exact .inl (.inr (.inl e))
    · exact (hx k e).elim (fun e => .inl (.inr (.inr (.inl e)))) (fun e => .inr (.inl e))
    · rcases List.mem_append.1 hx' with hx' | hx'
      · exact .inl (.inr (.inr (.inr ⟨x, hx', e⟩)))
      · rw [List.mem_singleton.1 hx'] at e
        exact .inr (.inr e)
def zeroU : Up := ⟨.slice none 0 0, [], zeroM⟩
theorem zeroU_cells : #[Value.slice none 0 0, .int .i64 0, .int .i64 0, .int .i64 0, .int .i64 0, .int .i64 0, .int .i64 0, .bool false].toList = flatU [zeroU] := rfl

theorem half_wrap {n : Nat} (h : n < 1000000) : IntKind.i64.wrap ((n : Int) + 1) = (n : Int) + 1 := IntWalk.i64_in _ (by omega)

/-- What the later half of the bottom leaves behind the world w. -/
def HalfUp (w : World) (rb : Nat) (most : Int) (bv av : Value) (us0 : List Up) (B : List M) (half : Nat) (X : List Up) (Lp : List M) (av' : Value) (w' : World) : Prop :=
  ∃ v' bv', RungsRes w rb most bv av us0 w' (B.take half) (X ++ [⟨v', Lp ++ B.drop half, B.getD half default⟩]) bv' av'
/-- What is held may be more. -/
theorem wpAnyH_mono {P : Program} {md : Region.Mode} {ops : Array Oper} {Q : Exit → Act → World → Prop} {S S' : World → Prop} (hs : ∀ w, S' w → S w) :
    ∀ (fuel : Nat) (listed : Array Bool) (a : Act) (w : World), wpAnyH P md ops Q S' fuel listed a w → wpAnyH P md ops Q S fuel listed a w
  | 0, _, _, _, h => h
  | fuel + 1, _, _, _, h => ⟨h.1, fun i hi => wpOp_mono (fun a' w' h' => ⟨hs _ h'.1, wpAnyH_mono hs fuel _ a' w' h'.2⟩) (h.2 i hi)⟩

theorem spill_run {w : World} {rb : Nat} {most : Int} {g off cap ag aoff acap : Nat} {B : List M} {X : List Up} {u : Up} (h : RungsOf w rb most (.slice (some ⟨g, off, none⟩) B.length cap) B (.slice (some ⟨ag, aoff, none⟩) (X.length + 1) acap) (X ++ [u])) {half : Nat} (hh : half = (B.length + 1) / 2) (hB : 2 ≤ B.length) :
    ∀ W, Below w.heap.size w W → SpillRest W rb most g off cap ag aoff acap B half X u (fun w' => HalfUp w rb most (.slice (some ⟨g, off, none⟩) B.length cap) (.slice (some ⟨ag, aoff, none⟩) (X.length + 1) acap) (X ++ [u]) B half X u.L (.slice (some ⟨ag, aoff, none⟩) (X.length + 1) acap) w') ∧ W.cell? ⟨rb, 0, none⟩ = some (.slice (some ⟨g, off, none⟩) B.length cap) ∧ W.cell? ⟨ag, aoff + X.length * 8, none⟩ = some u.v := by
  intro W hW
  have hW' := h.below hW
  have := spill_rest hW' hh hB
  refine ⟨⟨this.1, this.2.1, fun v' w4 r1 r2 r3 => ?_⟩, hW'.c0, ?_⟩
  · obtain ⟨q0, q1, q2, q3⟩ := this.2.2 v' w4 r1 r2 r3
    obtain ⟨W5, e5, d0, d1, w6, e6, d2, d3, v2, bv', d4⟩ := q3.out
    exact ⟨q0, q1, q2, W5, e5, d0, d1, w6, e6, d2, d3, v2, bv', d4.from_below hW⟩
  · obtain ⟨g', off', cap', e, hRU⟩ := AtU.form hW'.abv (by simp)
    obtain ⟨⟨rfl, rfl⟩, rfl⟩ : (ag = g' ∧ aoff = off') ∧ acap = cap' := by simpa using e
    have := hRU.slot X.length (by simp)
    rw [this]
    congr 1
    simp [List.getD_eq_getElem?_getD]
end Go.Proofs.Ytcfpfbemmklbaaa
