
/-
  Rungs: what lies above is another list; a foot; the bottom's later half let up.
-/
import Derived.Test.YtcfpfbemmklbaaaLDK
import Derived.Test.YtcfpfbemmklbaaaLDF
namespace Go.Proofs.Ytcfpfbemmklbaaa
open Go.ChangeShapes Go.WideShapes Go.ChangeAt Go.Shelf Go.RowKit Go.Lib Go.Sort Go.Deep
set_option linter.unusedVariables false

section
variable {w w1 w2 : World} {rb : Nat} {most : Int} {bv bv1 bv2 av av1 av2 : Value} {B B1 B2 : List M} {us us1 us2 : List Up}
theorem RungsRes.refl (h : RungsOf w rb most bv B av us) : RungsRes w rb most bv av us w B us bv av := ⟨h, KeptOff.refl _ _, fun _ e => .inl e⟩
theorem RungsRes.trans (h : RungsRes w rb most bv av us w1 B1 us1 bv1 av1) (h' : RungsRes w1 rb most bv1 av1 us1 w2 B2 us2 bv2 av2) : RungsRes w rb most bv av us w2 B2 us2 bv2 av2 :=
  ⟨h'.1, h.2.1.then_new h'.2.1 (fun k hk e => (h.2.2 k e).resolve_right (by omega)), fun k e => (h'.2.2 k e).elim (fun e => h.2.2 k e) (fun e => .inr (Nat.le_trans h.2.1.size e))⟩
theorem RungsRes.from_below (hb : Below w.heap.size w w1) (h : RungsRes w1 rb most bv av us w2 B2 us2 bv2 av2) : RungsRes w rb most bv av us w2 B2 us2 bv2 av2 :=
  ⟨h.1, (KeptOff.of_below hb).trans h.2.1, fun k e => (h.2.2 k e).imp id (fun e => Nat.le_trans hb.size e)⟩
/-- Behind it, a step that turns nothing of old. -/
theorem RungsRes.then_below (h : RungsRes w rb most bv av us w1 B1 us1 bv1 av1) (hb : Below w1.heap.size w1 w2) : RungsRes w rb most bv av us w2 B1 us1 bv1 av1 :=
  ⟨h.1.below hb, h.2.1.trans (.of_below hb), h.2.2⟩
end

/-- Another list above. -/
theorem RungsOf.setAv {w w4 : World} {rb : Nat} {most : Int} {bv av av' : Value} {B : List M} {us us' : List Up} (h : RungsOf w rb most bv B av us) (hk : KeptC (vext av 8) w w4) (hv : AtU w4 av' us') (hx : ∀ k, av'.ownBlock = some k → av.ownBlock = some k ∨ w.heap.size ≤ k)
    (heach : ∀ u ∈ us', AtM w u.v u.L) (hap : (bv :: us'.map Up.v).Pairwise Dis) (hown : ∀ u ∈ us', ∀ k, u.v.ownBlock = some k → bv.ownBlock = some k ∨ ∃ u ∈ us, u.v.ownBlock = some k) : RungsRes w rb most bv av us (w4.setCell ⟨rb, 2, none⟩ av') B us' bv av' := by
  have hrb : ∀ o, ¬ vext av 8 rb o := fun o e => h.av_rb e.own rfl
  have hrow4 : w4.heap[rb]? = some (.cells #[bv, .int .i64 most, av] 82 (0, 0)) := (hk.block rb h.rlt hrb).trans h.row
  have ks := KeptC.set hrow4 2 av'
  have hall : KeptC (fun k q => vext av 8 k q ∨ (k = rb ∧ q = 2)) w (w4.setCell ⟨rb, 2, none⟩ av') := (hk.mono (fun _ _ _ e => .inl e)).then_new ks (fun k q _ e => .inr e)
  have hmsg : ∀ {v : Value} {l : List M}, AtM w v l → ∀ k o, vext v 7 k o → ¬ (vext av 8 k o ∨ (k = rb ∧ o = 2)) := fun {v l} hv k o e e2 => e2.elim (fun e2 => h.av_msg hv e.own e2.own) (fun e2 => h.msg_rb hv e.own e2.1)
  refine ⟨⟨?_, RowAt.keptC h.bot hall (hmsg h.bot), RowAt.keptC hv ks (fun k o e e2 => ?_), fun u hu => RowAt.keptC (heach u hu) hall (hmsg (heach u hu)), hap⟩, hall.off (fun k o _ e => e.elim (fun e => .inr (.inr (.inl e.own))) (fun e => .inl e.1)), ?_⟩
  · rw [heap_setCell_same w4 rb 2 _ _ av' hrow4]
    rfl
  · have := h.rlt
    rcases hx k e.own with e3 | e3
    · exact h.av_rb e3 e2.1
    · omega
  · rintro k (e | e | e | ⟨u, hu, e⟩)
    · exact .inl (.inl e)
    · exact .inl (.inr (.inl e))
    · exact (hx k e).imp (fun e => .inr (.inr (.inl e))) id
    · exact .inl ((hown u hu k e).elim (fun e => .inr (.inl e)) (fun e => .inr (.inr (.inr e))))
theorem flatU_split (X : List Up) (u : Up) (Y : List Up) : flatU (X ++ u :: Y) = flatU X ++ (u.v :: encM u.foot ++ flatU Y) := by
  rw [show u :: Y = [u] ++ Y from rfl, flatU_append, flatU_append]
  simp [flatU, encU]
theorem splice_mid {α : Type} (A C D E : List α) (h : D.length = C.length) : splice (A ++ (C ++ E)) A.length D = A ++ (D ++ E) := by
  unfold splice
  rw [List.take_left, List.drop_append, List.drop_of_length_le (by omega), List.nil_append, show A.length + D.length - A.length = D.length by omega, h, List.drop_left]
/-- Another foot. -/
theorem RungsOf.setFoot {w : World} {rb : Nat} {most : Int} {bv : Value} {B : List M} {X Y : List Up} {u : Up} {ag aoff n acap : Nat} (h : RungsOf w rb most bv B (.slice (some ⟨ag, aoff, none⟩) n acap) (X ++ u :: Y)) (m : M) :
    ∃ w', (storeVar 34 ⟨ag, aoff + X.length * 8 + 1, none⟩ m.val).run Try.prog w = .ok () w' ∧ RungsRes w rb most bv (.slice (some ⟨ag, aoff, none⟩) n acap) (X ++ u :: Y) w' B (X ++ ⟨u.v, u.L, m⟩ :: Y) bv (.slice (some ⟨ag, aoff, none⟩) n acap) := by
  have hlen : (X ++ (⟨u.v, u.L, m⟩ : Up) :: Y).length = (X ++ u :: Y).length := by simp
  have habv := h.abv
  unfold AtU at habv
  rcases habv with ⟨e, _⟩ | ⟨g, off, cap, he, hR⟩
  · cases e
  · obtain ⟨⟨rfl, rfl⟩, rfl, rfl⟩ : ((ag = g ∧ aoff = off) ∧ n = (X ++ u :: Y).length ∧ acap = cap) := by simpa using he
    have hfl : (flatU X ++ [u.v]).length = X.length * 8 + 1 := by rw [List.length_append, flatU_length]; rfl
    obtain ⟨w', hrun, r1, r2⟩ := RowIn.writeC (P := Try.prog) hR (X.length * 8 + 1) (encM m) (by rw [flatU_length, encM_length, List.length_append, List.length_cons]; omega) (encM_one m)
    have e1 : splice (flatU (X ++ u :: Y)) (X.length * 8 + 1) (encM m) = flatU (X ++ ⟨u.v, u.L, m⟩ :: Y) := by
      have := splice_mid (flatU X ++ [u.v]) (encM u.foot) (encM m) (flatU Y) rfl
      rw [hfl] at this
      rw [flatU_split, flatU_split]
      simpa using this
    rw [e1] at r1
    have hE : ∀ k o, (k = ag ∧ aoff + (X.length * 8 + 1) ≤ o ∧ o < aoff + (X.length * 8 + 1) + (encM m).length) → (Value.slice (some ⟨ag, aoff, none⟩) (X ++ u :: Y).length acap).ownBlock = some k := fun k o e => by rw [e.1]; rfl
    have hmsg : ∀ {v : Value} {l : List M}, AtM w v l → ∀ k o, vext v 7 k o → ¬ (k = ag ∧ aoff + (X.length * 8 + 1) ≤ o ∧ o < aoff + (X.length * 8 + 1) + (encM m).length) := fun {v l} hv k o e e2 => h.av_msg hv e.own (hE k o e2)
    have hin : ∀ x ∈ X ++ (⟨u.v, u.L, m⟩ : Up) :: Y, ∃ y ∈ X ++ u :: Y, y.v = x.v ∧ y.L = x.L := fun x hx => by
      rcases List.mem_append.1 hx with e | e
      · exact ⟨x, List.mem_append_left _ e, rfl, rfl⟩
      · rcases List.mem_cons.1 e with rfl | e
        · exact ⟨u, List.mem_append_right _ (List.mem_cons_self ..), rfl, rfl⟩
        · exact ⟨x, List.mem_append_right _ (List.mem_cons_of_mem _ e), rfl, rfl⟩
    refine ⟨w', ?_, ⟨?_, RowAt.keptC h.bot r2 (hmsg h.bot), ?_, fun x hx => ?_, ?_⟩, r2.off (fun k o _ e => .inr (.inr (.inl (hE k o e)))), ?_⟩
    · have hs : m.val.cells.size = 7 := rfl
      have hi := infoS
      cases hq : Try.prog.info? 34 with
      | none => simp [hq] at hi
      | some i =>
        have hs2 : m.val.cells.size = i.size := by simp [hq] at hi; omega
        rw [← Nat.add_assoc] at hrun
        have hrun2 : (storeCells ⟨ag, aoff + X.length * 8 + 1, none⟩ m.val.cells.toList 0).run Try.prog w = .ok () w' := hrun
        simp [storeVar, sizeOf, typeInfo, hq, hs2, hrun2]
    · exact (r2.block rb h.rlt (fun o e => h.av_rb (hE rb o e) rfl)).trans h.row
    · unfold AtU
      rw [hlen]
      exact .inr ⟨ag, aoff, acap, rfl, r1⟩
    · obtain ⟨y, hy, e1, e2⟩ := hin x hx
      rw [← e1, ← e2]
      exact RowAt.keptC (h.each y hy) r2 (hmsg (h.each y hy))
    · have := h.apart
      rw [List.map_append, List.map_cons] at this ⊢
      exact this
    · rintro k (e | e | e | ⟨x, hx, e⟩)
      · exact .inl (.inl e)
      · exact .inl (.inr (.inl e))
      · exact .inl (.inr (.inr (.inl e)))
      · obtain ⟨y, hy, e1, e2⟩ := hin x hx
        exact .inl (.inr (.inr (.inr ⟨y, hy, by rw [e1]; exact e⟩)))
end Go.Proofs.Ytcfpfbemmklbaaa
