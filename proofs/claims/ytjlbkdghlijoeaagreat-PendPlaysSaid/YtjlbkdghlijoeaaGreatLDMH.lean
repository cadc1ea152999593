/-
  Rungs: which one, by its number; the places of feet.
  Rungs: what lies above is another list; a foot; the bottom's later half let up.
  Rungs: the bottom's later half let up.
-/
import Derived.Test.YtjlbkdghlijoeaaGreatLDF
import Derived.BigQuiet
import Derived.Deep.RegionHeld3
namespace Go.Proofs.YtjlbkdghlijoeaaGreat
open Go.ChangeShapes Go.WideShapes Go.ChangeAt Go.Shelf Go.RowKit Go.Lib Go.Sort Go.Deep
set_option linter.unusedVariables false

theorem at_up {w : World} {rb ag aoff n acap : Nat} (c2 : w.cell? ⟨rb, 2, none⟩ = some (.slice (some ⟨ag, aoff, none⟩) n acap)) (i : Nat) (hi : i < n) : Calls Tryz.prog 130 #[.pointer (some ⟨rb, 0, none⟩), .int .i64 i] w fun e w' => e = .returned (.pointer (some ⟨ag, aoff + i * 8, none⟩)) ∧ w = w' := by
  have h1 : (i : Int) < (n : Int) := by omega
  go_enter Tryz.func130, Tryz.ntmps130
  go_wp2
  go_ret
  exact ⟨rfl, rfl⟩
theorem at_bot {w : World} {rb n acap : Nat} {a : Option Addr} (c2 : w.cell? ⟨rb, 2, none⟩ = some (.slice a n acap)) : Calls Tryz.prog 130 #[.pointer (some ⟨rb, 0, none⟩), .int .i64 n] w fun e w' => e = .returned (.pointer (some ⟨rb, 0, none⟩)) ∧ w = w' := by
  have h1 : ¬ (n : Int) < (n : Int) := by omega
  go_enter Tryz.func130, Tryz.ntmps130
  go_wp2
  go_ret
  exact ⟨rfl, rfl⟩

theorem flatU_get (us : List Up) (i : Nat) (hi : i < us.length) (c : Nat) (hc : c < 8) : (flatU us)[i * 8 + c]? = (encU (us.getD i default))[c]? := by
  have e := List.drop_eq_getElem_cons hi
  have h1 : flatU us = flatU (us.take i) ++ flatU (us.drop i) := by rw [← flatU_append, List.take_append_drop]
  have h2 : (flatU (us.take i)).length = i * 8 := by rw [flatU_length, List.length_take, Nat.min_eq_left (by omega)]
  rw [h1, ← h2, get_behind, e, getD_at us i hi]
  show (encU us[i] ++ _)[c]? = _
  rw [List.getElem?_append_left (by rw [encU_length]; omega)]
theorem RowU.foot {w : World} {g off cap : Nat} {us : List Up} (h : RowU w g off cap us) (i : Nat) (hi : i < us.length) : MsgAt w g (off + i * 8 + 1) (us.getD i default).foot := by
  have hc : ∀ c, c < 7 → ∀ u, (encM (us.getD i default).foot)[c]? = some u → w.cell? ⟨g, off + i * 8 + 1 + c, none⟩ = some u := fun c hc u hu => by
    rw [Nat.add_assoc, Nat.add_assoc, Nat.add_comm 1 c]
    exact RowIn.cell h (by rw [flatU_get us i hi (c + 1) (by omega)]; exact hu)
  exact ⟨RowIn.lt h, hc 0 (by omega) _ rfl, hc 1 (by omega) _ rfl, hc 2 (by omega) _ rfl, hc 3 (by omega) _ rfl, hc 4 (by omega) _ rfl, hc 5 (by omega) _ rfl, hc 6 (by omega) _ rfl⟩
theorem RowU.slot {w : World} {g off cap : Nat} {us : List Up} (h : RowU w g off cap us) (i : Nat) (hi : i < us.length) : w.cell? ⟨g, off + i * 8, none⟩ = some (us.getD i default).v := by
  refine RowIn.cell h ?_
  have := flatU_get us i hi 0 (by omega)
  rw [Nat.add_zero] at this
  rw [this]
  rfl
theorem AtU.form {w : World} {v : Value} {us : List Up} (h : AtU w v us) (h0 : 0 < us.length) : ∃ g off cap, v = .slice (some ⟨g, off, none⟩) us.length cap ∧ RowU w g off cap us := RowAt.form h h0

set_option maxHeartbeats 4000000 in
set_option maxRecDepth 100000 in
theorem lput1_any {W : World} {A B rb ag aoff acap : Nat} {us : List Up} (m : M) (hA : W.cell? ⟨A, 0, none⟩ = some (.pointer (some ⟨rb, 0, none⟩))) (hb : W.cell? ⟨rb, 2, none⟩ = some (.slice (some ⟨ag, aoff, none⟩) us.length acap)) (hB : MsgAt W B 0 m) (hR : RowU W ag aoff acap us) (k : Nat) (hk : k < us.length) :
    Calls Tryz.prog 134 #[.int .i64 k, .pointer (some ⟨B, 0, none⟩), .pointer (some ⟨A, 0, none⟩)] W fun e w' => e = .returned (.bool (!ltM m (us.getD k default).foot)) ∧ Read W w' := by
  have mixed := mixed
  have hx := hR.foot k hk
  have hAl : A < W.heap.size := World.block_lt_of_cell? W _ hA
  have hbl : rb < W.heap.size := World.block_lt_of_cell? W _ hb
  have hkI : (k : Int) < (us.length : Int) := by omega
  clear hR hk
  generalize (us.getD k default).foot = x at hx ⊢
  generalize us.length = n at hb hkI ⊢
  have hcon := fun w => eBefore_any m x w
  obtain ⟨hBl, y0, y1, y2, y3, y4, y5, y6⟩ := hB
  obtain ⟨hgl, x0, x1, x2, x3, x4, x5, x6⟩ := hx
  simp only [Nat.zero_add] at y0 y1 y2 y3 y4 y5 y6
  simp only [Nat.add_assoc] at x0 x1 x2 x3 x4 x5 x6
  simp only [Nat.reduceAdd] at x0 x1 x2 x3 x4 x5 x6
  simp only [← Nat.add_assoc] at x0 x1 x2 x3 x4 x5 x6
  simp only [M.val] at hcon
  have hS : ∀ w', Read W w' → w'.cell? ⟨A, 0, none⟩ = some (.pointer (some ⟨rb, 0, none⟩)) ∧ w'.cell? ⟨rb, 2, none⟩ = some (.slice (some ⟨ag, aoff, none⟩) n acap) ∧
      (w'.cell? ⟨ag, aoff + k * 8 + 1, none⟩ = some (.int .i64 x.k.t) ∧ w'.cell? ⟨ag, aoff + k * 8 + 2, none⟩ = some (.int .i64 x.k.f) ∧ w'.cell? ⟨ag, aoff + k * 8 + 3, none⟩ = some (.int .i64 x.k.s) ∧ w'.cell? ⟨ag, aoff + k * 8 + 4, none⟩ = some (.int .i64 x.to) ∧
        w'.cell? ⟨ag, aoff + k * 8 + 5, none⟩ = some (.int .i64 x.v) ∧ w'.cell? ⟨ag, aoff + k * 8 + 6, none⟩ = some (.int .i64 x.u) ∧ w'.cell? ⟨ag, aoff + k * 8 + 7, none⟩ = some (.bool x.anti)) ∧
      (w'.cell? ⟨B, 0, none⟩ = some (.int .i64 m.k.t) ∧ w'.cell? ⟨B, 1, none⟩ = some (.int .i64 m.k.f) ∧ w'.cell? ⟨B, 2, none⟩ = some (.int .i64 m.k.s) ∧ w'.cell? ⟨B, 3, none⟩ = some (.int .i64 m.to) ∧
        w'.cell? ⟨B, 4, none⟩ = some (.int .i64 m.v) ∧ w'.cell? ⟨B, 5, none⟩ = some (.int .i64 m.u) ∧ w'.cell? ⟨B, 6, none⟩ = some (.bool m.anti)) := fun w' hr =>
    ⟨hr.cell hAl hA, hr.cell hbl hb, ⟨hr.cell hgl x0, hr.cell hgl x1, hr.cell hgl x2, hr.cell hgl x3, hr.cell hgl x4, hr.cell hgl x5, hr.cell hgl x6⟩, hr.cell hBl y0, hr.cell hBl y1, hr.cell hBl y2, hr.cell hBl y3, hr.cell hBl y4, hr.cell hBl y5, hr.cell hBl y6⟩
  clear hA hb x0 x1 x2 x3 x4 x5 x6 y0 y1 y2 y3 y4 y5 y6 hAl hgl hbl hBl
  generalize ltM m x = lt at hcon ⊢
  have hd := Read.drew W 1
  go_enter Tryz.func134, Tryz.ntmps134
  go_upto_region 1 with (fail)
  go_region_held3 (fun w' => w'.cell? ⟨A, 0, none⟩ = some (.pointer (some ⟨rb, 0, none⟩)) ∧ w'.cell? ⟨rb, 2, none⟩ = some (.slice (some ⟨ag, aoff, none⟩) n acap) ∧
      (w'.cell? ⟨ag, aoff + k * 8 + 1, none⟩ = some (.int .i64 x.k.t) ∧ w'.cell? ⟨ag, aoff + k * 8 + 2, none⟩ = some (.int .i64 x.k.f) ∧ w'.cell? ⟨ag, aoff + k * 8 + 3, none⟩ = some (.int .i64 x.k.s) ∧ w'.cell? ⟨ag, aoff + k * 8 + 4, none⟩ = some (.int .i64 x.to) ∧
        w'.cell? ⟨ag, aoff + k * 8 + 5, none⟩ = some (.int .i64 x.v) ∧ w'.cell? ⟨ag, aoff + k * 8 + 6, none⟩ = some (.int .i64 x.u) ∧ w'.cell? ⟨ag, aoff + k * 8 + 7, none⟩ = some (.bool x.anti)) ∧
      (w'.cell? ⟨B, 0, none⟩ = some (.int .i64 m.k.t) ∧ w'.cell? ⟨B, 1, none⟩ = some (.int .i64 m.k.f) ∧ w'.cell? ⟨B, 2, none⟩ = some (.int .i64 m.k.s) ∧ w'.cell? ⟨B, 3, none⟩ = some (.int .i64 m.to) ∧
        w'.cell? ⟨B, 4, none⟩ = some (.int .i64 m.v) ∧ w'.cell? ⟨B, 5, none⟩ = some (.int .i64 m.u) ∧ w'.cell? ⟨B, 6, none⟩ = some (.bool m.anti)))
    (first | exact hS _ hd | exact hS _ (hd.trans hr1))
    (first | (go_at_call 34; refine (hcon _).mono ?_; rintro e w1 ⟨rfl, hr1⟩))
  go_wp2
  go_ret
  exact ⟨rfl, hd.trans hr1⟩
end Go.Proofs.YtjlbkdghlijoeaaGreat
namespace Go.Proofs.YtjlbkdghlijoeaaGreat
open Go.ChangeShapes Go.WideShapes Go.ChangeAt Go.Shelf Go.RowKit Go.Lib Go.Sort Go.Deep
set_option linter.unusedVariables false

section
variable {w w1 w2 : World} {rb : Nat} {most : Int} {bv bv1 bv2 av av1 av2 : Value} {B B1 B2 : List M} {us us1 us2 : List Up}
theorem RungsRes.refl (h : RungsOf w rb most bv B av us) : RungsRes w rb most bv av us w B us bv av := ⟨h, KeptOff.refl _ _, fun _ e => .inl e⟩
theorem RungsRes.trans (h : RungsRes w rb most bv av us w1 B1 us1 bv1 av1) (h' : RungsRes w1 rb most bv1 av1 us1 w2 B2 us2 bv2 av2) : RungsRes w rb most bv av us w2 B2 us2 bv2 av2 :=
  ⟨h'.1, h.2.1.then_new h'.2.1 (fun k hk e => (h.2.2 k e).resolve_right (by omega)), fun k e => (h'.2.2 k e).elim (fun e => h.2.2 k e) (fun e => .inr (Nat.le_trans h.2.1.size e))⟩
theorem RungsRes.from_below (hb : Below w.heap.size w w1) (h : RungsRes w1 rb most bv av us w2 B2 us2 bv2 av2) : RungsRes w rb most bv av us w2 B2 us2 bv2 av2 :=
  ⟨h.1, (KeptOff.of_below hb).trans h.2.1, fun k e => (h.2.2 k e).imp id (fun e => Nat.le_trans hb.size e)⟩
/-- Behind it, a step that turns nothing of old. -/
theorem RungsRes.then_below (h : RungsRes w rb most bv av us w1 B1 us1 bv1 av1) (hb : Below w1.heap.size w1 w2) : RungsRes w rb most bv av us w2 B1 us1 bv1 av1 :=
  ⟨h.1.below hb, h.2.1.trans (.of_below hb), h.2.2⟩
end

/-- Another list above. -/
theorem RungsOf.setAv {w w4 : World} {rb : Nat} {most : Int} {bv av av' : Value} {B : List M} {us us' : List Up} (h : RungsOf w rb most bv B av us) (hk : KeptC (vext av 8) w w4) (hv : AtU w4 av' us') (hx : ∀ k, av'.ownBlock = some k → av.ownBlock = some k ∨ w.heap.size ≤ k)
    (heach : ∀ u ∈ us', AtM w u.v u.L) (hap : (bv :: us'.map Up.v).Pairwise Dis) (hown : ∀ u ∈ us', ∀ k, u.v.ownBlock = some k → bv.ownBlock = some k ∨ ∃ u ∈ us, u.v.ownBlock = some k) : RungsRes w rb most bv av us (w4.setCell ⟨rb, 2, none⟩ av') B us' bv av' := by
  have hrb : ∀ o, ¬ vext av 8 rb o := fun o e => h.av_rb e.own rfl
  have hrow4 : w4.heap[rb]? = some (.cells #[bv, .int .i64 most, av] 108 (0, 0)) := (hk.block rb h.rlt hrb).trans h.row
  have ks := KeptC.set hrow4 2 av'
  have hall : KeptC (fun k q => vext av 8 k q ∨ (k = rb ∧ q = 2)) w (w4.setCell ⟨rb, 2, none⟩ av') := (hk.mono (fun _ _ _ e => .inl e)).then_new ks (fun k q _ e => .inr e)
  have hmsg : ∀ {v : Value} {l : List M}, AtM w v l → ∀ k o, vext v 7 k o → ¬ (vext av 8 k o ∨ (k = rb ∧ o = 2)) := fun {v l} hv k o e e2 => e2.elim (fun e2 => h.av_msg hv e.own e2.own) (fun e2 => h.msg_rb hv e.own e2.1)
  refine ⟨⟨?_, RowAt.keptC h.bot hall (hmsg h.bot), RowAt.keptC hv ks (fun k o e e2 => ?_), fun u hu => RowAt.keptC (heach u hu) hall (hmsg (heach u hu)), hap⟩, hall.off (fun k o _ e => e.elim (fun e => .inr (.inr (.inl e.own))) (fun e => .inl e.1)), ?_⟩
  · rw [heap_setCell_same w4 rb 2 _ _ av' hrow4]
    rfl
  · have := h.rlt
    rcases hx k e.own with e3 | e3
    · exact h.av_rb e3 e2.1
    · omega
  · rintro k (e | e | e | ⟨u, hu, e⟩)
    · exact .inl (.inl e)
    · exact .inl (.inr (.inl e))
    · exact (hx k e).imp (fun e => .inr (.inr (.inl e))) id
    · exact .inl ((hown u hu k e).elim (fun e => .inr (.inl e)) (fun e => .inr (.inr (.inr e))))
theorem flatU_split (X : List Up) (u : Up) (Y : List Up) : flatU (X ++ u :: Y) = flatU X ++ (u.v :: encM u.foot ++ flatU Y) := by
  rw [show u :: Y = [u] ++ Y from rfl, flatU_append, flatU_append]
  simp [flatU, encU]
theorem splice_mid {α : Type} (A C D E : List α) (h : D.length = C.length) : splice (A ++ (C ++ E)) A.length D = A ++ (D ++ E) := by
  unfold splice
  rw [List.take_left, List.drop_append, List.drop_of_length_le (by omega), List.nil_append, show A.length + D.length - A.length = D.length by omega, h, List.drop_left]
/-- Another foot. -/
theorem RungsOf.setFoot {w : World} {rb : Nat} {most : Int} {bv : Value} {B : List M} {X Y : List Up} {u : Up} {ag aoff n acap : Nat} (h : RungsOf w rb most bv B (.slice (some ⟨ag, aoff, none⟩) n acap) (X ++ u :: Y)) (m : M) :
    ∃ w', (storeVar 34 ⟨ag, aoff + X.length * 8 + 1, none⟩ m.val).run Tryz.prog w = .ok () w' ∧ RungsRes w rb most bv (.slice (some ⟨ag, aoff, none⟩) n acap) (X ++ u :: Y) w' B (X ++ ⟨u.v, u.L, m⟩ :: Y) bv (.slice (some ⟨ag, aoff, none⟩) n acap) := by
  have hlen : (X ++ (⟨u.v, u.L, m⟩ : Up) :: Y).length = (X ++ u :: Y).length := by simp
  have habv := h.abv
  unfold AtU at habv
  rcases habv with ⟨e, _⟩ | ⟨g, off, cap, he, hR⟩
  · cases e
  · obtain ⟨⟨rfl, rfl⟩, rfl, rfl⟩ : ((ag = g ∧ aoff = off) ∧ n = (X ++ u :: Y).length ∧ acap = cap) := by simpa using he
    have hfl : (flatU X ++ [u.v]).length = X.length * 8 + 1 := by rw [List.length_append, flatU_length]; rfl
    obtain ⟨w', hrun, r1, r2⟩ := RowIn.writeC (P := Tryz.prog) hR (X.length * 8 + 1) (encM m) (by rw [flatU_length, encM_length, List.length_append, List.length_cons]; omega) (encM_one m)
    have e1 : splice (flatU (X ++ u :: Y)) (X.length * 8 + 1) (encM m) = flatU (X ++ ⟨u.v, u.L, m⟩ :: Y) := by
      have := splice_mid (flatU X ++ [u.v]) (encM u.foot) (encM m) (flatU Y) rfl
      rw [hfl] at this
      rw [flatU_split, flatU_split]
      simpa using this
    rw [e1] at r1
    have hE : ∀ k o, (k = ag ∧ aoff + (X.length * 8 + 1) ≤ o ∧ o < aoff + (X.length * 8 + 1) + (encM m).length) → (Value.slice (some ⟨ag, aoff, none⟩) (X ++ u :: Y).length acap).ownBlock = some k := fun k o e => by rw [e.1]; rfl
    have hmsg : ∀ {v : Value} {l : List M}, AtM w v l → ∀ k o, vext v 7 k o → ¬ (k = ag ∧ aoff + (X.length * 8 + 1) ≤ o ∧ o < aoff + (X.length * 8 + 1) + (encM m).length) := fun {v l} hv k o e e2 => h.av_msg hv e.own (hE k o e2)
    have hin : ∀ x ∈ X ++ (⟨u.v, u.L, m⟩ : Up) :: Y, ∃ y ∈ X ++ u :: Y, y.v = x.v ∧ y.L = x.L := fun x hx => by
      rcases List.mem_append.1 hx with e | e
      · exact ⟨x, List.mem_append_left _ e, rfl, rfl⟩
      · rcases List.mem_cons.1 e with rfl | e
        · exact ⟨u, List.mem_append_right _ (List.mem_cons_self ..), rfl, rfl⟩
        · exact ⟨x, List.mem_append_right _ (List.mem_cons_of_mem _ e), rfl, rfl⟩
    refine ⟨w', ?_, ⟨?_, RowAt.keptC h.bot r2 (hmsg h.bot), ?_, fun x hx => ?_, ?_⟩, r2.off (fun k o _ e => .inr (.inr (.inl (hE k o e)))), ?_⟩
    · have hs : m.val.cells.size = 7 := rfl
      have hi := infoS
      cases hq : Tryz.prog.info? 34 with
      | none => simp [hq] at hi
      | some i =>
        have hs2 : m.val.cells.size = i.size := by simp [hq] at hi; omega
        rw [← Nat.add_assoc] at hrun
        have hrun2 : (storeCells ⟨ag, aoff + X.length * 8 + 1, none⟩ m.val.cells.toList 0).run Tryz.prog w = .ok () w' := hrun
        simp [storeVar, sizeOf, typeInfo, hq, hs2, hrun2]
    · exact (r2.block rb h.rlt (fun o e => h.av_rb (hE rb o e) rfl)).trans h.row
    · unfold AtU
      rw [hlen]
      exact .inr ⟨ag, aoff, acap, rfl, r1⟩
    · obtain ⟨y, hy, e1, e2⟩ := hin x hx
      rw [← e1, ← e2]
      exact RowAt.keptC (h.each y hy) r2 (hmsg (h.each y hy))
    · have := h.apart
      rw [List.map_append, List.map_cons] at this ⊢
      exact this
    · rintro k (e | e | e | ⟨x, hx, e⟩)
      · exact .inl (.inl e)
      · exact .inl (.inr (.inl e))
      · exact .inl (.inr (.inr (.inl e)))
      · obtain ⟨y, hy, e1, e2⟩ := hin x hx
        exact .inl (.inr (.inr (.inr ⟨y, hy, by rw [e1]; exact e⟩)))
end Go.Proofs.YtjlbkdghlijoeaaGreat
namespace Go.Proofs.YtjlbkdghlijoeaaGreat
open Go.ChangeShapes Go.WideShapes Go.ChangeAt Go.Shelf Go.RowKit Go.Lib Go.Sort Go.Deep
set_option linter.unusedVariables false

theorem wpList_store_run {P : Program} {w : World} {ops : Array Oper} {rest : List Oper} {o : Oper} {a : Act} {Q : Exit → Act → World → Prop} (hgd : o.guard = none) (ty : TypeId) (x y : Operand) (ho : o.op = .store ty x y) (p : Addr) (u : Value)
    (hx : a.eval x = .pointer (some p)) (hy : a.eval y = u) {w' : World} (hrun : (storeVar ty p u).run P w = .ok () w') (hK : wpList P ops Q rest (a.put o.dst undef) w') : wpList P ops Q (o :: rest) a w := by
  refine wpList_plain hgd fun K' hK' => ?_
  unfold Oper.wp execOp
  simp only [ho, hx, hy, Instr.storeAt, Instr.sureAddr, Sem.run_bind, Sem.run_pure, Result.andThen_ok, hrun]
  exact hK' _ _ hK
theorem held_len (B : List M) (us : List Up) : B.length ≤ (held B us).length := by unfold held; rw [List.length_append]; omega
theorem held_mem {B : List M} {us : List Up} {u : Up} (h : u ∈ us) : u.L.length ≤ (held B us).length := by
  obtain ⟨X, Y, rfl⟩ := List.append_of_mem h
  have := (held_mid B X Y u).length_eq
  rw [List.length_append] at this
  omega
theorem held_rungs {B : List M} : ∀ {us : List Up}, (∀ u ∈ us, u.L ≠ []) → us.length ≤ (held B us).length
  | [], _ => by simp
  | u :: us, h => by
    have h1 := held_rungs (B := B) (us := us) (fun x hx => h x (List.mem_cons_of_mem _ hx))
    have h2 := (held_mid B [] us u).length_eq
    have h3 : 0 < u.L.length := List.length_pos_iff.2 (h u (List.mem_cons_self ..))
    rw [List.length_append] at h2
    simp only [List.nil_append] at h2
    rw [List.length_cons]
    omega
/-- What a spill leaves, behind the world W. -/
def Spilt (w : World) (rb : Nat) (most : Int) (bv av : Value) (us : List Up) (B : List M) (Bw : List M) (w' : World) : Prop := ∃ B' us' bv' av', RungsRes w rb most bv av us w' B' us' bv' av' ∧ Stairs B' us' ∧ (held B' us').Perm Bw
/-- The facts for the rest of spill. -/
def SpillRest (W : World) (rb : Nat) (most : Int) (g off cap ag aoff acap : Nat) (B : List M) (half : Nat) (X : List Up) (u : Up) (R : World → Prop) : Prop :=
  RowAt W.drew 34 7 u.v u.L.length (flat u.L) ∧
  RowAt W.drew 34 7 (.slice (some ⟨g, off + half * 7, none⟩) (B.length - half) (cap - half)) (B.length - half) (flat (B.drop (half))) ∧
  ∀ v' w4, Hid (RowAt w4 34 7 v' (u.L.length + (B.length - half)) (flat u.L ++ flat (B.drop (half)))) → Hid (KeptC (vext u.v 7) W.drew w4) → Hid (∀ k q, vext v' 7 k q → vext u.v 7 k q ∨ W.drew.heap.size ≤ k) →
    w4.cell? ⟨rb, 0, none⟩ = some (.slice (some ⟨g, off, none⟩) B.length cap) ∧ w4.cell? ⟨ag, aoff + X.length * 8, none⟩ = some u.v ∧ w4.frozen? ⟨ag, aoff + X.length * 8, none⟩ = false ∧ Hid (∃ W5, W5 = w4.setCell ⟨ag, aoff + X.length * 8, none⟩ v' ∧ W5.cell? ⟨rb, 0, none⟩ = some (.slice (some ⟨g, off, none⟩) B.length cap) ∧ MsgAt W5 g (off + half * 7) (B.getD (half) default) ∧
      ∃ w6, (storeVar 34 ⟨ag, aoff + X.length * 8 + 1, none⟩ (B.getD (half) default).val).run Tryz.prog W5 = .ok () w6 ∧ w6.cell? ⟨rb, 0, none⟩ = some (.slice (some ⟨g, off, none⟩) B.length cap) ∧ w6.frozen? ⟨rb, 0, none⟩ = false ∧
        R (w6.setCell ⟨rb, 0, none⟩ (.slice (some ⟨g, off, none⟩) (half) cap)))
theorem spill_rest {W : World} {rb : Nat} {most : Int} {g off cap ag aoff n acap : Nat} {B : List M} {X : List Up} {u : Up} (h : RungsOf W rb most (.slice (some ⟨g, off, none⟩) B.length cap) B (.slice (some ⟨ag, aoff, none⟩) n acap) (X ++ [u])) {half : Nat} (hh : half = (B.length + 1) / 2) (hB : 2 ≤ B.length) :
    SpillRest W rb most g off cap ag aoff acap B half X u (fun w' => ∃ v' bv', RungsRes W rb most (.slice (some ⟨g, off, none⟩) B.length cap) (.slice (some ⟨ag, aoff, none⟩) n acap) (X ++ [u]) w' (B.take (half)) (X ++ [⟨v', u.L ++ B.drop (half), B.getD (half) default⟩]) bv' (.slice (some ⟨ag, aoff, none⟩) n acap)) := by
  have h1 : 1 ≤ half := by omega
  have h2 : half < B.length := by omega
  unfold SpillRest
  have hR : RowM W g off cap B := by
    rcases h.bot with ⟨e, _⟩ | ⟨g', off', cap', e, hR⟩
    · cases e
    · cases e
      exact hR
  have hb := RowIn.bounds hR
  have hu : u ∈ X ++ [u] := List.mem_append_right _ (List.mem_cons_self ..)
  have hd : Below W.heap.size W W.drew := (Below.refl _ W).drew
  have hag : ∃ cs, W.heap[ag]? = some (.cells cs 178 (0, 0)) := RowAt.tag h.abv rfl
  obtain ⟨cs, hag⟩ := hag
  have hslot : W.cell? ⟨ag, aoff + X.length * 8, none⟩ = some u.v := by
    obtain ⟨g', off', cap', e, hRU⟩ := AtU.form h.abv (by simp)
    cases e
    have := hRU.slot X.length (by simp)
    rw [this]
    congr 1
    simp [List.getD_eq_getElem?_getD]
  have hvag : ¬ vext u.v 7 ag (aoff + X.length * 8) := fun e => h.av_msg (h.each u hu) e.own rfl
  refine ⟨RowAt.below (h.each u hu) hd, ?_, fun v' w4 r1 r2 r3 => ?_⟩
  · have := RowIn.part (RowIn.block hR (w' := W.drew) rfl) half (B.length - half) (by omega)
    rw [← flat_drop, List.take_of_length_le (by rw [flat_length, List.length_drop]; omega)] at this
    exact this.at_
  · have hA4 : AtM w4 v' (u.L ++ B.drop half) := by
      unfold AtM
      rw [List.length_append, List.length_drop, flat_append]
      exact r1.out
    have k4 : KeptC (vext u.v 7) W w4 := r2.out.undrew
    obtain ⟨q1, q2⟩ := cell_keptC hag hslot k4 hvag
    have hr := rung_set hag (cell_in_row hag hslot) hvag hA4 k4 r3.out (own_of_ext hA4 (by rw [List.length_append, List.length_drop]; omega) r3.out)
    obtain ⟨v2, hres⟩ := h.setUp hr
    have q0 : w4.cell? ⟨rb, 0, none⟩ = some (.slice (some ⟨g, off, none⟩) B.length cap) := (cell_keptC h.row h.c0 k4 (fun e => h.msg_rb (h.each u hu) e.own rfl)).1
    refine ⟨q0, q1, q2, _, rfl, ?_⟩
    generalize w4.setCell ⟨ag, aoff + X.length * 8, none⟩ v' = W5 at hres
    have h5 := hres.1
    have hR5 : RowM W5 g off cap B := by
      rcases h5.bot with ⟨e, _⟩ | ⟨g', off', cap', e, hR⟩
      · cases e
      · cases e
        exact hR
    obtain ⟨w6, hrun, hres6⟩ := h5.setFoot (B.getD half default)
    have h6 := hres6.1
    have hR6 : RowM w6 g off cap B := by
      rcases h6.bot with ⟨e, _⟩ | ⟨g', off', cap', e, hR⟩
      · cases e
      · cases e
        exact hR
    refine ⟨h5.c0, hR5.at half h2, w6, hrun, h6.c0, h6.fz 0, ?_⟩
    have ht : AtM w6 (.slice (some ⟨g, off, none⟩) half cap) (B.take half) := by
      have := RowIn.part hR6 0 half (by omega)
      rw [Nat.zero_mul, List.drop_zero, ← flat_take, Nat.add_zero, Nat.sub_zero] at this
      unfold AtM
      rw [List.length_take, Nat.min_eq_left (by omega)]
      exact this.at_
    have hbv : ¬ vext (.slice (some ⟨g, off, none⟩) B.length cap) 7 rb 0 := fun e => h6.msg_rb h6.bot e.own rfl
    have hr6 := rung_set h6.row (by simp) hbv ht (KeptC.refl _ _) (fun k q e => .inl (vext_some.2 (vext_some.1 e))) (fun k e => .inl e)
    obtain ⟨bv', hres7⟩ := h6.setBot hr6
    exact ⟨v2, bv', (hres.trans hres6).trans hres7⟩

/-- One more rung above. -/
theorem RungsOf.pushAv {w w4 : World} {rb : Nat} {most : Int} {bv av av' : Value} {B : List M} {us : List Up} {u : Up} (h : RungsOf w rb most bv B av us) (r1 : RowAt w4 178 8 av' (us.length + 1) (flatU us ++ flatU [u])) (hk : KeptC (vext av 8) w w4) (r3 : ∀ k q, vext av' 8 k q → vext av 8 k q ∨ w.heap.size ≤ k)
    (hu : AtM w u.v u.L) (hd : ∀ x ∈ bv :: us.map Up.v, Dis x u.v) : RungsOf (w4.setCell ⟨rb, 2, none⟩ av') rb most bv B av' (us ++ [u]) ∧ KeptOff (ROwn rb bv av us) w (w4.setCell ⟨rb, 2, none⟩ av') ∧ ∀ k, ROwn rb bv av' (us ++ [u]) k → ROwn rb bv av us k ∨ w.heap.size ≤ k ∨ u.v.ownBlock = some k := by
  have hv : AtU w4 av' (us ++ [u]) := by
    unfold AtU
    rw [List.length_append, flatU_append]
    exact r1
  have hx : ∀ k, av'.ownBlock = some k → av.ownBlock = some k ∨ w.heap.size ≤ k := fun k hk' => by
    obtain ⟨g, off, cap, rfl, hR⟩ := AtU.form hv (by simp)
    simp [Value.ownBlock] at hk'
    subst hk'
    have := RowIn.bounds hR
    rw [List.length_append, List.length_singleton] at this
    exact (r3 g off (vext_some.2 ⟨rfl, Nat.le_refl _, by omega⟩)).imp (fun e => e.own) id
  have heach : ∀ x ∈ us ++ [u], AtM w x.v x.L := fun x hx' => (List.mem_append.1 hx').elim (fun e => h.each x e) (fun e => by rw [List.mem_singleton.1 e]; exact hu)
  have hap : (bv :: (us ++ [u]).map Up.v).Pairwise Dis := by
    rw [List.map_append, ← List.cons_append]
    exact List.pairwise_append.2 ⟨h.apart, List.pairwise_singleton _ _, fun x hx y hy => by rw [List.mem_singleton.1 hy]; exact hd x hx⟩
  have hrb : ∀ o, ¬ vext av 8 rb o := fun o e => h.av_rb e.own rfl
  have hrow4 : w4.heap[rb]? = some (.cells #[bv, .int .i64 most, av] 108 (0, 0)) := (hk.block rb h.rlt hrb).trans h.row
  have ks := KeptC.set hrow4 2 av'
  have hall : KeptC (fun k q => vext av 8 k q ∨ (k = rb ∧ q = 2)) w (w4.setCell ⟨rb, 2, none⟩ av') := (hk.mono (fun _ _ _ e => .inl e)).then_new ks (fun k q _ e => .inr e)
  have hmsg : ∀ {v : Value} {l : List M}, AtM w v l → ∀ k o, vext v 7 k o → ¬ (vext av 8 k o ∨ (k = rb ∧ o = 2)) := fun {v l} hv k o e e2 => e2.elim (fun e2 => h.av_msg hv e.own e2.own) (fun e2 => h.msg_rb hv e.own e2.1)
  refine ⟨⟨?_, RowAt.keptC h.bot hall (hmsg h.bot), RowAt.keptC hv ks (fun k o e e2 => ?_), fun u hu => RowAt.keptC (heach u hu) hall (hmsg (heach u hu)), hap⟩, hall.off (fun k o _ e => e.elim (fun e => .inr (.inr (.inl e.own))) (fun e => .inl e.1)), ?_⟩
  · rw [heap_setCell_same w4 rb 2 _ _ av' hrow4]
    rfl
  · have := h.rlt
    rcases hx k e.own with e3 | e3
    · exact h.av_rb e3 e2.1
    · omega
  · rintro k (e | e | e | ⟨x, hx', e⟩)
    · exact .inl (.inl e)
    · exact .inl (.inr (.inl e))
    · exact (hx k e).elim (fun e => .inl (.inr (.inr (.inl e)))) (fun e => .inr (.inl e))
    · rcases List.mem_append.1 hx' with hx' | hx'
      · exact .inl (.inr (.inr (.inr ⟨x, hx', e⟩)))
      · rw [List.mem_singleton.1 hx'] at e
        exact .inr (.inr e)
def zeroU : Up := ⟨.slice none 0 0, [], zeroM⟩
theorem zeroU_cells : #[Value.slice none 0 0, .int .i64 0, .int .i64 0, .int .i64 0, .int .i64 0, .int .i64 0, .int .i64 0, .bool false].toList = flatU [zeroU] := rfl

theorem half_wrap {n : Nat} (h : n < 1000000) : IntKind.i64.wrap ((n : Int) + 1) = (n : Int) + 1 := IntWalk.i64_in _ (by omega)

/-- What the later half of the bottom leaves behind the world w. -/
def HalfUp (w : World) (rb : Nat) (most : Int) (bv av : Value) (us0 : List Up) (B : List M) (half : Nat) (X : List Up) (Lp : List M) (av' : Value) (w' : World) : Prop :=
  ∃ v' bv', RungsRes w rb most bv av us0 w' (B.take half) (X ++ [⟨v', Lp ++ B.drop half, B.getD half default⟩]) bv' av'
/-- What is held may be more. -/
theorem wpAnyH_mono {P : Program} {md : Region.Mode} {ops : Array Oper} {Q : Exit → Act → World → Prop} {S S' : World → Prop} (hs : ∀ w, S' w → S w) :
    ∀ (fuel : Nat) (listed : Array Bool) (a : Act) (w : World), wpAnyH P md ops Q S' fuel listed a w → wpAnyH P md ops Q S fuel listed a w
  | 0, _, _, _, h => h
  | fuel + 1, _, _, _, h => ⟨h.1, fun i hi => wpOp_mono (fun a' w' h' => ⟨hs _ h'.1, wpAnyH_mono hs fuel _ a' w' h'.2⟩) (h.2 i hi)⟩

theorem spill_run {w : World} {rb : Nat} {most : Int} {g off cap ag aoff acap : Nat} {B : List M} {X : List Up} {u : Up} (h : RungsOf w rb most (.slice (some ⟨g, off, none⟩) B.length cap) B (.slice (some ⟨ag, aoff, none⟩) (X.length + 1) acap) (X ++ [u])) {half : Nat} (hh : half = (B.length + 1) / 2) (hB : 2 ≤ B.length) :
    ∀ W, Below w.heap.size w W → SpillRest W rb most g off cap ag aoff acap B half X u (fun w' => HalfUp w rb most (.slice (some ⟨g, off, none⟩) B.length cap) (.slice (some ⟨ag, aoff, none⟩) (X.length + 1) acap) (X ++ [u]) B half X u.L (.slice (some ⟨ag, aoff, none⟩) (X.length + 1) acap) w') ∧ W.cell? ⟨rb, 0, none⟩ = some (.slice (some ⟨g, off, none⟩) B.length cap) ∧ W.cell? ⟨ag, aoff + X.length * 8, none⟩ = some u.v := by
  intro W hW
  have hW' := h.below hW
  have := spill_rest hW' hh hB
  refine ⟨⟨this.1, this.2.1, fun v' w4 r1 r2 r3 => ?_⟩, hW'.c0, ?_⟩
  · obtain ⟨q0, q1, q2, q3⟩ := this.2.2 v' w4 r1 r2 r3
    obtain ⟨W5, e5, d0, d1, w6, e6, d2, d3, v2, bv', d4⟩ := q3.out
    exact ⟨q0, q1, q2, W5, e5, d0, d1, w6, e6, d2, d3, v2, bv', d4.from_below hW⟩
  · obtain ⟨g', off', cap', e, hRU⟩ := AtU.form hW'.abv (by simp)
    obtain ⟨⟨rfl, rfl⟩, rfl⟩ : (ag = g' ∧ aoff = off') ∧ acap = cap' := by simpa using e
    have := hRU.slot X.length (by simp)
    rw [this]
    congr 1
    simp [List.getD_eq_getElem?_getD]
end Go.Proofs.YtjlbkdghlijoeaaGreat
