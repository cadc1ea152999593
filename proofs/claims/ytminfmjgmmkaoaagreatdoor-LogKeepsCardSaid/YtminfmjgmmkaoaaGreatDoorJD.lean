/-
  Slices of a list of entries; a list's blocks are none of a log's; what is dropped twice.
  The law of what is dropped: a world that may not be.
  The law of what is dropped.
  How many of a stretch's steps are ahead of a message: sort.Search, place.
  A list told backwards: slices.Backward over stretches and over entries.
  The way back, in plain data: where a message parts the stretches; the calls that make the iterators.
-/
import Derived.Test.YtminfmjgmmkaoaaGreatDoorIT
import Derived.Test.YtminfmjgmmkaoaaGreatDoorIC
import Derived.Test.YtminfmjgmmkaoaaGreatDoorJZ
namespace Go.Proofs.YtminfmjgmmkaoaaGreatDoor
open Go.ChangeShapes Go.WideShapes Go.ChangeAt Go.Shelf Go.RowKit Go.Lib Go.Sort Go.Deep
set_option linter.unusedVariables false
set_option maxRecDepth 4000
set_option linter.unusedSimpArgs false

/-- A part of a list of entries. -/
theorem EntsAt.sliced {w : World} {a : Option Addr} {n c : Nat} {L : List (En × Value)} (h : EntsAt w (.slice a n c) L) {l k : Nat} (hl : l ≤ k) (hk : k ≤ n) : EntsAt w (sliced a l k c 19) ((L.drop l).take (k - l)) := by
  refine ⟨?_, fun y hy => h.2 y (List.mem_of_mem_drop (List.mem_of_mem_take hy))⟩
  have hflat : ((L.drop l).take (k - l)).flatMap encE = ((L.flatMap encE).drop (l * 19)).take ((k - l) * 19) := by
    rw [← flatOf_drop encE_length L l]
    have : ∀ (M : List (En × Value)) (p : Nat), (M.take p).flatMap encE = (M.flatMap encE).take (p * 19) := fun M p => by
      have e := flatOf_length encE_length (M.take p)
      conv => rhs; rw [← List.take_append_drop p M]
      rw [List.flatMap_append]
      by_cases hp : p ≤ M.length
      · have e2 : ((M.take p).flatMap encE).length = p * 19 := by rw [e, List.length_take, Nat.min_eq_left hp]
        rw [List.take_left' e2]
      · rw [List.drop_of_length_le (by omega), List.flatMap_nil, List.append_nil]
        refine (List.take_of_length_le ?_).symm
        rw [e, List.length_take]
        exact Nat.mul_le_mul_right _ (Nat.min_le_left _ _)
    exact this _ _
  rcases h.1 with ⟨e, h0, _⟩ | ⟨g, off, cap, e, hr⟩
  · simp at e
    obtain ⟨rfl, rfl, rfl⟩ := e
    have hL : L = [] := List.eq_nil_of_length_eq_zero h0
    subst hL
    obtain rfl : k = 0 := by omega
    obtain rfl : l = 0 := by omega
    exact .inl ⟨by simp [Go.sliced], by simp, by simp⟩
  · simp at e
    obtain ⟨rfl, rfl, rfl⟩ := e
    have hb := hr.bounds
    have hlen : ((L.drop l).take (k - l)).length = k - l := by rw [List.length_take, List.length_drop]; omega
    rw [hflat, hlen]
    by_cases hc : c = l
    · obtain rfl : k = l := by omega
      refine .inr ⟨g, off, 0, by simp [Go.sliced, hc], ?_⟩
      obtain ⟨cur, h1, h2, h3, h4, h5, h6⟩ := hr
      rw [Nat.sub_self, Nat.zero_mul, List.take_zero]
      exact ⟨cur, h1, Nat.le_refl _, Nat.zero_le _, by omega, rfl, fun j u hj => by cases hj⟩
    · refine .inr ⟨g, off + l * 19, c - l, by simp [Go.sliced, hc, Addr.add], hr.part l (k - l) (by omega)⟩
section
variable {P : Program} {ρ : Operand → Value} {o : Oper} {w : World} {t : TypeId} {x y : Operand} {a : Option Addr} {n c h s : Nat} {k : IntKind}
theorem exec_slice_h (ho : o.op = .slice t x none (some y) none) (ht : P.underlying t = some (.slice (P.elem t))) (hs : (sizeOf (P.elem t)).run P w = .ok s w) (hx : ρ x = .slice a n c) (hy : ρ y = .int k (h : Int)) (hh : h ≤ c) : (execOp ρ o).run P w = .ok (.value (sliced a 0 h c s)) w := by
  unfold execOp
  simp only [ho, Option.map, hx, hy]
  simp only [Sem.run_bind, run_sliceAt_slice w t _ _ _ _ ht, run_slice_h w t a n c ht k (h : Int) (by omega) (by omega), hs, Result.andThen, Sem.run_pure, Int.toNat_natCast]
end
/-- A log's blocks. -/
theorem LogIs.off {b w : World} {lb c : Nat} {v : Wv} {W : Wd} {every : Int} {sv : Value} {ss : List Sth} {st : Sta} {stuck : Bool} (h : LogIs b w lb v W every sv ss st stuck c) {k : Nat} {cur : Array Value} {e : TypeId} (hk : w.heap[k]? = some (.cells cur e (0, 0))) (h1 : e ≠ 71) (h2 : e ≠ 68) (h3 : e ≠ 101) : ¬ LOwn lb sv ss k := fun e0 => by
  rcases e0 with rfl | e0 | ⟨s, hs, e0⟩
  · rw [h.of.row] at hk
    simp at hk
    exact h1 hk.2.symm
  · obtain ⟨c0, h4⟩ := h.of.rd.svt k e0
    rw [h4] at hk
    simp at hk
    exact h2 hk.2.symm
  · obtain ⟨c0, h4⟩ := h.of.rd.stt hs k e0
    rw [h4] at hk
    simp at hk
    exact h3 hk.2.symm
theorem LogIs.offV {b w : World} {lb c : Nat} {v : Wv} {W : Wd} {every : Int} {sv : Value} {ss : List Sth} {st : Sta} {stuck : Bool} (h : LogIs b w lb v W every sv ss st stuck c) {x : Value} {e : TypeId} (hk : TagV w e x) (h1 : e ≠ 71) (h2 : e ≠ 68) (h3 : e ≠ 101) : ∀ k, x.ownBlock = some k → ¬ LOwn lb sv ss k := fun k e0 => by
  obtain ⟨cur, h4⟩ := hk k e0
  exact h.off h4 h1 h2 h3
theorem LogIs.offE {b w : World} {lb c : Nat} {v : Wv} {W : Wd} {every : Int} {sv : Value} {ss : List Sth} {st : Sta} {stuck : Bool} (h : LogIs b w lb v W every sv ss st stuck c) {x : Value} {L : List (En × Value)} (hE : EntsAt w x L) : ∀ k, EOwn x L k → ¬ LOwn lb sv ss k := fun k e0 => by
  rcases e0 with e0 | ⟨y, hy, e0⟩
  · obtain ⟨cur, h4⟩ := RowAt.tag hE.1 e0
    exact h.off h4 (by decide) (by decide) (by decide)
  · exact h.offV (hE.2 y hy).2 (by decide) (by decide) (by decide) k e0
/-- The events' list. -/
def EvsAt (w : World) (a : Option Addr) (n c : Nat) (bs : List Int) : Prop := Mgs w a n c (evs bs n) ∧ TagV w 42 (.slice a n c)
theorem EvsAt.kept {S : Nat → Prop} {w w' : World} {a : Option Addr} {n c : Nat} {bs : List Int} (h : EvsAt w a n c bs) (hk : KeptOff S w w') (hn : ∀ k, (Value.slice a n c).ownBlock = some k → ¬ S k) : EvsAt w' a n c bs := ⟨h.1.keptOff hk hn, h.2.kept hk hn⟩
theorem EvsAt.below {w w' : World} {a : Option Addr} {n c : Nat} {bs : List Int} (h : EvsAt w a n c bs) (hb : Below w.heap.size w w') : EvsAt w' a n c bs := ⟨h.1.below hb, h.2.below hb⟩
theorem EvsAt.of_own {w : World} {base n c : Nat} {a : Option Addr} {bs : List Int} (h : w.ownsRow base 42 7 (.slice a n c) n (flatM (evs bs n))) : EvsAt w a n c bs := by
  refine ⟨mgs_of_own h, fun k e => ?_⟩
  rcases h.2 with ⟨h0, _⟩ | ⟨g, cap, cur, hv, hb, hg, _⟩
  · rw [h0] at e; cases e
  · rw [hv] at e
    simp [Value.ownBlock] at e
    subst e
    exact ⟨cur, hg⟩
theorem evs_get {bs : List Int} {n i : Nat} (h : i < n) : (evs bs n).getD i default = evM bs i := by
  simp [evs, List.getD_eq_getElem?_getD, h]
end Go.Proofs.YtminfmjgmmkaoaaGreatDoor
namespace Go.Proofs.YtminfmjgmmkaoaaGreatDoor
open Go.ChangeShapes Go.WideShapes Go.ChangeAt Go.Shelf Go.RowKit Go.Lib Go.Sort Go.Deep
set_option linter.unusedVariables false
set_option maxRecDepth 4000
set_option linter.unusedSimpArgs false

end Go.Proofs.YtminfmjgmmkaoaaGreatDoor
namespace Go.Proofs.YtminfmjgmmkaoaaGreatDoor
open Go.ChangeShapes Go.WideShapes Go.ChangeAt Go.Shelf Go.RowKit Go.Lib Go.Sort Go.Deep
set_option linter.unusedVariables false
set_option maxRecDepth 4000
set_option linter.unusedSimpArgs false

/-- Events 0 to j - 1 are done. -/
def DoneI (b : World) (lb : Nat) (v : Wv) (W : Wd) (every : Int) (bs : List Int) (uid : Nat → Int) (a : Option Addr) (n c j : Nat) (w : World) : Prop :=
  ∃ sv ss, LogP b w lb v W every sv ss (Pl.run W bs uid 0 j Pl.zero) j ∧ AheadOf bs j ss ∧ EvsAt w a n c bs
theorem DoneI.next {b w w' : World} {lb : Nat} {v : Wv} {W : Wd} {every : Int} {sv sv' : Value} {ss ss' : List Sth} {bs : List Int} {uid : Nat → Int} {a : Option Addr} {n c j : Nat} (h : LogP b w lb v W every sv ss (Pl.run W bs uid 0 j Pl.zero) j) (he : EvsAt w a n c bs)
    (h' : LogP b w' lb v W every sv' ss' ((Pl.run W bs uid 0 j Pl.zero).more W (evM bs j) (uid j)) (j + 1)) (ha : AheadOf bs (j + 1) ss') (hk : KeptOff (LOwn lb sv ss) w w') : DoneI b lb v W every bs uid a n c (j + 1) w' :=
  ⟨sv', ss', by rw [Pl.run_succ, Nat.zero_add]; exact h', ha, he.kept hk (h.1.offV he.2 (by decide) (by decide) (by decide))⟩
theorem u8_rng {t : Int} (h : (Lit.int .u8 t).wf = true) : 0 ≤ t ∧ t ≤ 255 := by
  simp [Lit.wf, IntKind.min, IntKind.max, IntKind.signed, IntKind.bits] at h
  omega
end Go.Proofs.YtminfmjgmmkaoaaGreatDoor
namespace Go.Proofs.YtminfmjgmmkaoaaGreatDoor
open Go.ChangeShapes Go.WideShapes Go.ChangeAt Go.Shelf Go.RowKit Go.Lib Go.Sort Go.Deep
set_option linter.unusedVariables false
set_option maxRecDepth 4000
set_option linter.unusedSimpArgs false

/-- The middle of two, as the library computes it. -/
theorem half_sp {i j : Nat} (h : i + j < 4611686018427387904) : IntKind.u64.wrap ((i : Int) + (j : Int)) = (i : Int) + (j : Int) := by rw [IntKind.wrap_u64]; omega

set_option maxHeartbeats 4000000 in
set_option maxRecDepth 100000 in
theorem spSearch_any {W0 : World} (n : Nat) (hn : n < 1000000) (lt : Nat → Bool) (x y : Value)
    (hf : ∀ k, k < n → ∀ w, Read W0 w → Calls Tryz.prog 74 #[.int .i64 k, x, y] w fun e w' => e = .returned (.bool (!lt k)) ∧ Read w w')
    (hmono : ∀ i j, i < j → j < n → lt j = true → lt i = true) :
    Calls Tryz.prog 73 #[.int .i64 n, .func (.func 74) #[] #[x, y]] W0 fun e w' => ∃ p : Nat, e = .returned (.int .i64 p) ∧ Read W0 w' ∧ p ≤ n ∧ (∀ i, i < p → lt i = true) ∧ (∀ i, p ≤ i → i < n → lt i = false) := by
  have mixed := mixed
  have hf' := Lib.hid hf
  have hm' := Lib.hid hmono
  have hn' := Lib.hid hn
  clear hf hmono
  go_enter Tryz.func73, Tryz.ntmps73
  go_wp2
  go_loopg [5, 6] n (fun kx s5 s6 wr => ∃ (i j : Nat), s5 = .int .i64 i ∧ s6 = .int .i64 j ∧ i ≤ j ∧ j ≤ n ∧ j - i ≤ kx ∧ Hid ((∀ t, t < i → lt t = true) ∧ (∀ t, j ≤ t → t < n → lt t = false) ∧ Read W0 wr))
  case atStart => exact ⟨0, n, rfl, rfl, Nat.zero_le _, Nat.le_refl _, by omega, ⟨fun t h => by omega, fun t h h' => by omega, Read.refl _⟩⟩
  case round =>
    obtain ⟨i, j, rfl, rfl, hij, hj, hkx, H⟩ := hrel
    by_cases hlt : i < j
    · have hz : (i : Int) < (j : Int) := by omega
      have hu := half_sp (i := i) (j := j) (by have := hn'.out; omega)
      obtain ⟨h, hhe, hih, hhj⟩ : ∃ h : Nat, ((i : Int) + (j : Int)) / 2 = (h : Int) ∧ i ≤ h ∧ h < j := ⟨(i + j) / 2, by omega, by omega, by omega⟩
      have rc5 : IntKind.i64.wrap ((h : Int)) = (h : Int) := by rw [IntKind.wrap_i64]; have := hn'.out; omega
      have hc := hf'.out h (by omega) wr H.out.2.2
      cases hL : lt h with
      | true =>
        have rc6 : IntKind.i64.wrap ((h : Int) + 1) = (h : Int) + 1 := IntWalk.i64_in _ (by have := hn'.out; omega)
        rw [hL] at hc
        go_wp2_with (go_at_call 74; refine hc.mono ?_; rintro e w1 ⟨rfl, hr1⟩)
        go_roundg (j - (h + 1))
        case measure => omega
        case rel =>
          refine ⟨h + 1, j, by simp, rfl, by omega, hj, Nat.le_refl _, ⟨fun t ht => ?_, H.out.2.1, H.out.2.2.trans hr1⟩⟩
          by_cases hte : t = h
          · rw [hte]; exact hL
          · exact hm'.out t h (by omega) (by omega) hL
      | false =>
        rw [hL] at hc
        go_wp2_with (go_at_call 74; refine hc.mono ?_; rintro e w1 ⟨rfl, hr1⟩)
        go_roundg (h - i)
        case measure => omega
        case rel =>
          refine ⟨i, h, rfl, rfl, by omega, by omega, Nat.le_refl _, ⟨H.out.1, fun t ht ht2 => ?_, H.out.2.2.trans hr1⟩⟩
          cases hb : lt t with
          | false => rfl
          | true =>
            by_cases hte : t = h
            · rw [hte, hL] at hb; cases hb
            · have := hm'.out h t (by omega) ht2 hb
              rw [hL] at this; cases this
    · have hz : ¬ (i : Int) < (j : Int) := by omega
      obtain rfl : i = j := by omega
      go_wp2
      go_ret
      exact ⟨i, rfl, H.out.2.2, hj, H.out.1, H.out.2.1⟩


set_option maxHeartbeats 4000000 in
set_option maxRecDepth 100000 in
theorem spPlace1_any {W : World} {A B : Nat} {S : Sth} (m : M) (hA : W.heap[A]? = some (.cells (encT S).toArray 68 (0, 0))) (hB : W.heap[B]? = some (.cells m.cells 42 (0, 0))) (hR : AtP W S.v S.L) (k : Nat) (p : Stp) (hk : S.L[k]? = some p) :
    Calls Tryz.prog 74 #[.int .i64 k, .pointer (some ⟨A, 0, none⟩), .pointer (some ⟨B, 0, none⟩)] W fun e w' => e = .returned (.bool (!ltM p.ev m)) ∧ Read W w' := by
  have mixed := mixed
  have hkl := (List.getElem?_eq_some_iff.1 hk).1
  obtain ⟨g, off, cap, hv, -⟩ := RowAt.form hR (by omega)
  have cA : W.cell? ⟨A, 10, none⟩ = some (.slice (some ⟨g, off, none⟩) S.L.length cap) := by rw [← hv]; exact row_cell hA 10 rfl
  have hx := AtP.msg (hv ▸ hR) hk
  have hAl : A < W.heap.size := World.block_lt_of_cell? W _ cA
  have hbl : B < W.heap.size := (Array.getElem?_eq_some_iff.1 hB).1
  have hkI : (k : Int) < (S.L.length : Int) := by omega
  have hk0 : (0 : Int) ≤ (k : Int) := by omega
  clear hR hk hA hv
  generalize p.ev = x at hx ⊢
  generalize S.L.length = n at cA hkI hkl ⊢
  have hcon := fun w => eBefore_any x m w
  obtain ⟨y0, y1, y2, y3, y4, y5, y6⟩ := row7 hB
  obtain ⟨hgl, x0, x1, x2, x3, x4, x5, x6⟩ := hx
  simp only [M.val] at hcon
  have hS : ∀ w', Read W w' → w'.cell? ⟨A, 10, none⟩ = some (.slice (some ⟨g, off, none⟩) n cap) ∧
      (w'.cell? ⟨g, off + k * 9, none⟩ = some (.int .i64 x.k.t) ∧ w'.cell? ⟨g, off + k * 9 + 1, none⟩ = some (.int .i64 x.k.f) ∧ w'.cell? ⟨g, off + k * 9 + 2, none⟩ = some (.int .i64 x.k.s) ∧ w'.cell? ⟨g, off + k * 9 + 3, none⟩ = some (.int .i64 x.to) ∧
        w'.cell? ⟨g, off + k * 9 + 4, none⟩ = some (.int .i64 x.v) ∧ w'.cell? ⟨g, off + k * 9 + 5, none⟩ = some (.int .i64 x.u) ∧ w'.cell? ⟨g, off + k * 9 + 6, none⟩ = some (.bool x.anti)) ∧
      (w'.cell? ⟨B, 0, none⟩ = some (.int .i64 m.k.t) ∧ w'.cell? ⟨B, 1, none⟩ = some (.int .i64 m.k.f) ∧ w'.cell? ⟨B, 2, none⟩ = some (.int .i64 m.k.s) ∧ w'.cell? ⟨B, 3, none⟩ = some (.int .i64 m.to) ∧
        w'.cell? ⟨B, 4, none⟩ = some (.int .i64 m.v) ∧ w'.cell? ⟨B, 5, none⟩ = some (.int .i64 m.u) ∧ w'.cell? ⟨B, 6, none⟩ = some (.bool m.anti)) := fun w' hr =>
    ⟨hr.cell hAl cA, ⟨hr.cell hgl x0, hr.cell hgl x1, hr.cell hgl x2, hr.cell hgl x3, hr.cell hgl x4, hr.cell hgl x5, hr.cell hgl x6⟩, hr.cell hbl y0, hr.cell hbl y1, hr.cell hbl y2, hr.cell hbl y3, hr.cell hbl y4, hr.cell hbl y5, hr.cell hbl y6⟩
  clear cA x0 x1 x2 x3 x4 x5 x6 y0 y1 y2 y3 y4 y5 y6 hAl hgl hbl hB
  generalize ltM x m = lt at hcon ⊢
  have hd := Read.drew W 1
  go_enter Tryz.func74, Tryz.ntmps74
  go_upto_region 1 with (fail)
  go_region_held3 (fun w' => w'.cell? ⟨A, 10, none⟩ = some (.slice (some ⟨g, off, none⟩) n cap) ∧
      (w'.cell? ⟨g, off + k * 9, none⟩ = some (.int .i64 x.k.t) ∧ w'.cell? ⟨g, off + k * 9 + 1, none⟩ = some (.int .i64 x.k.f) ∧ w'.cell? ⟨g, off + k * 9 + 2, none⟩ = some (.int .i64 x.k.s) ∧ w'.cell? ⟨g, off + k * 9 + 3, none⟩ = some (.int .i64 x.to) ∧
        w'.cell? ⟨g, off + k * 9 + 4, none⟩ = some (.int .i64 x.v) ∧ w'.cell? ⟨g, off + k * 9 + 5, none⟩ = some (.int .i64 x.u) ∧ w'.cell? ⟨g, off + k * 9 + 6, none⟩ = some (.bool x.anti)) ∧
      (w'.cell? ⟨B, 0, none⟩ = some (.int .i64 m.k.t) ∧ w'.cell? ⟨B, 1, none⟩ = some (.int .i64 m.k.f) ∧ w'.cell? ⟨B, 2, none⟩ = some (.int .i64 m.k.s) ∧ w'.cell? ⟨B, 3, none⟩ = some (.int .i64 m.to) ∧
        w'.cell? ⟨B, 4, none⟩ = some (.int .i64 m.v) ∧ w'.cell? ⟨B, 5, none⟩ = some (.int .i64 m.u) ∧ w'.cell? ⟨B, 6, none⟩ = some (.bool m.anti)))
    (first | exact hS _ hd | exact hS _ (hd.trans hr1))
    (first | (go_at_call 75; refine (hcon _).mono ?_; rintro e w1 ⟨rfl, hr1⟩))
  go_wp2
  go_ret
  exact ⟨rfl, hd.trans hr1⟩
/-- The first p of the steps are ahead of m, the others are not. -/
def Part (m : M) (L : List Stp) (p : Nat) : Prop := p ≤ L.length ∧ (∀ i q, L[i]? = some q → i < p → ltM q.ev m = true) ∧ ∀ i q, L[i]? = some q → p ≤ i → ltM q.ev m = false
def ltAt (m : M) (L : List Stp) (k : Nat) : Bool := (L[k]?.map fun q => ltM q.ev m).getD false
set_option maxHeartbeats 4000000 in
theorem spPlace_any {w : World} {S : Sth} {m : M} {p : Nat} (hR : AtP w S.v S.L) (hl : S.L.length < 16384) (hp : Part m S.L p) :
    Calls Tryz.prog 53 #[.agg (encT S).toArray, m.val] w fun e w' => e = .returned (.int .i64 (p : Int)) ∧ Below w.heap.size w w' := by
  obtain ⟨va, vc, hv, -⟩ := RowAt.shape hR
  have hb1 := (Below.refl _ w).alloc (Nat.le_refl _) (.cells (encT S).toArray 68)
  have hb2 := hb1.alloc (by simp) (.cells m.cells 42)
  have hsz : (w.alloc (.cells (encT S).toArray 68)).heap.size = w.heap.size + 1 := by simp
  have hA : ((w.alloc (.cells (encT S).toArray 68)).alloc (.cells m.cells 42)).heap[w.heap.size]? = some (.cells (encT S).toArray 68 (0, 0)) :=
    (((Below.refl _ (w.alloc (.cells (encT S).toArray 68))).alloc (Nat.le_refl _) (.cells m.cells 42)).block _ (by omega)).trans (heap_alloc_new w _)
  have hB : ((w.alloc (.cells (encT S).toArray 68)).alloc (.cells m.cells 42)).heap[w.heap.size + 1]? = some (.cells m.cells 42 (0, 0)) := by
    have := heap_alloc_new (w.alloc (.cells (encT S).toArray 68)) (.cells m.cells 42)
    rwa [hsz] at this
  have hs := spSearch_any (W0 := (w.alloc (.cells (encT S).toArray 68)).alloc (.cells m.cells 42)) S.L.length (by omega) (ltAt m S.L) (.pointer (some ⟨w.heap.size, 0, none⟩)) (.pointer (some ⟨w.heap.size + 1, 0, none⟩))
    (fun k hk w' hr => by
      have hq := List.getElem?_eq_getElem hk
      have hbw := hr.below
      have := spPlace1_any (W := w') m ((hbw.block _ (Array.getElem?_eq_some_iff.1 hA).1).trans hA) ((hbw.block _ (Array.getElem?_eq_some_iff.1 hB).1).trans hB) (RowAt.kept (S := fun _ => False) hR (.of_below (hb2.trans (hbw.mono hb2.size))) (fun _ _ e => e)) k _ hq
      have e : ltAt m S.L k = ltM (S.L[k]).ev m := by simp [ltAt, hq]
      rw [e]
      exact this)
    (fun i j hij hj hlt => by
      have hqi := List.getElem?_eq_getElem (show i < S.L.length by omega)
      have hqj := List.getElem?_eq_getElem hj
      have ei : ltAt m S.L i = ltM (S.L[i]).ev m := by simp [ltAt, hqi]
      have ej : ltAt m S.L j = ltM (S.L[j]).ev m := by simp [ltAt, hqj]
      rw [ej] at hlt
      rw [ei]
      rcases Nat.lt_or_ge j p with h | h
      · exact hp.2.1 i _ hqi (by omega)
      · rw [hp.2.2 j _ hqj h] at hlt
        cases hlt)
  have cA : ((w.alloc (.cells (encT S).toArray 68)).alloc (.cells m.cells 42)).cell? ⟨w.heap.size, 10, none⟩ = some (.slice va S.L.length vc) := by rw [← hv]; exact row_cell hA 10 rfl
  have hs' : Hid (Calls Tryz.prog 73 #[.int .i64 S.L.length, .func (.func 74) #[] #[.pointer (some ⟨w.heap.size, 0, none⟩), .pointer (some ⟨w.heap.size + 1, 0, none⟩)]] ((w.alloc (.cells (encT S).toArray 68)).alloc (.cells m.cells 42)) fun e w' => e = .returned (.int .i64 (p : Int)) ∧ Below w.heap.size w w') := Lib.hid (hs.mono (by
    rintro e w' ⟨q, rfl, hr, hq, h1, h2⟩
    have hqp : q = p := by
      rcases Nat.lt_trichotomy q p with h | h | h
      · have hx := List.getElem?_eq_getElem (show q < S.L.length by have := hp.1; omega)
        have e1 := hp.2.1 q _ hx h
        have e2 := h2 q (Nat.le_refl _) (by have := hp.1; omega)
        simp [ltAt, hx, e1] at e2
      · exact h
      · have hx := List.getElem?_eq_getElem (show p < S.L.length by omega)
        have e1 := hp.2.2 p _ hx (Nat.le_refl _)
        have e2 := h1 p h
        simp [ltAt, hx, e1] at e2
    subst hqp
    exact ⟨rfl, hb2.trans (hr.below.mono hb2.size)⟩))
  clear hs hR hp hA hB hb1 hb2 hsz hv
  have hcc : (Value.agg (encT S).toArray).cells = (encT S).toArray := rfl
  obtain ⟨⟨t, f, q⟩, to', vv, u, an⟩ := m
  simp only [M.val, M.cells] at *
  generalize (encT S).toArray = XT at *
  go_enter Tryz.func53, Tryz.ntmps53
  go_wp2_with (go_at_call 73; refine hs'.out.mono ?_; rintro e w' ⟨rfl, hb⟩)
  go_ret
  exact ⟨rfl, hb⟩
end Go.Proofs.YtminfmjgmmkaoaaGreatDoor
namespace Go.Proofs.YtminfmjgmmkaoaaGreatDoor
open Go.ChangeShapes Go.WideShapes Go.ChangeAt Go.Shelf Go.RowKit Go.Lib Go.Sort Go.Deep
set_option linter.unusedVariables false
set_option maxRecDepth 4000
set_option linter.unusedSimpArgs false
attribute [local go_sem] Oper.semAt_some

section
variable {n : Nat} {P : Program} {ops : Array Oper} {rest : List Oper} {o : Oper} {a : Act} {w : World} {Q : Exit → Act → World → Prop}
theorem exec_yield2 {l : Nat} {ρ : Operand → Value} (x y z : Operand) (ts : Array TypeId) (ho : o.op = .call { callee := .value x, args := #[y, z], argTypes := ts }) (hx : ρ x = .func (.yield l) #[] #[]) (v u : Value) (hy : ρ y = v) (hz : ρ z = u) : (execOp ρ o).run P w = (Instr.yield l #[v, u]).run P w := by
  simp [execOp, ho, resolve, invoke, go_sem, hx, hy, hz]
theorem wpListIn_yield2 {l : Nat} (hgd : o.guard = none) (x y z : Operand) (ts : Array TypeId) (ho : o.op = .call { callee := .value x, args := #[y, z], argTypes := ts }) (hx : a.eval x = .func (.yield l) #[] #[]) (v u : Value) (hy : a.eval y = v) (hz : a.eval z = u)
    {R : Ending → World → Prop} (hc : YieldAt Fence.wide 0 P l #[v, u] w R) (h : ∀ e w', R e w' → ∃ q, e = .returned q ∧ wpListIn Fence.wide n P ops Q rest (a.put o.dst q) w') : wpListIn Fence.wide n P ops Q (o :: rest) a w := by
  refine wpListIn_plain hgd fun K hK' => ?_
  unfold Oper.wpIn
  refine ⟨fun _ _ => trivial, ?_⟩
  rw [Oper.semAt_plain _ _ _ (by rw [ho]; intro c hc'; cases hc')]
  obtain ⟨fn, tmps, assign, body, hyy, hR⟩ := hc
  have he := exec_yield2 (P := P) (w := w) x y z ts ho hx v u hy hz
  rw [he, hyy]
  have hR' : RoundIn Fence.wide (n - 1) P l fn tmps assign body w R := ⟨trivial, fun c cs _ => hR.2 c cs (room_wide _)⟩
  refine ⟨fun h0 => (by cases h0), hR'.mono fun e w' hRe => ?_⟩
  obtain ⟨q, rfl, hA⟩ := h e w' hRe
  exact hK' _ _ hA
end
/-- An element handed over with its place. -/
def PayB {α : Type} (enc : α → List Value) (G : Nat → Prop) (x : α) (vs : Array Value) (X : World) : Prop := (∃ i : Int, vs = #[.int .i64 i, .agg (enc x).toArray]) ∧ ∀ k, ¬ G k
theorem rev_snoc {α : Type} {L : List α} {j : Nat} {x : α} (h : L[j]? = some x) : (L.drop j).reverse = (L.drop (j + 1)).reverse ++ [x] := by
  have h0 := (List.getElem?_eq_some_iff.1 h).1
  rw [List.drop_eq_getElem_cons h0, List.reverse_cons]
  rw [List.getElem?_eq_getElem h0] at h
  rw [Option.some.inj h]
theorem rev_pre {α : Type} (L : List α) (j : Nat) : (L.drop j).reverse <+: L.reverse := ⟨(L.take j).reverse, by rw [← List.reverse_append, List.take_append_drop]⟩
theorem RowAt.rangeOf {α : Type} {enc : α → List Value} {sz : Nat} {w : World} {e : TypeId} {v : Value} {L : List α} (hsz : ∀ x, (enc x).length = sz) (h : RowAt w e sz v L.length (L.flatMap enc)) {g off c k : Nat} {x : α} (hv : v = .slice (some ⟨g, off, none⟩) L.length c) (hx : L[k]? = some x) : w.rangeAt g (off + k * sz) (enc x) := by
  intro j u hj
  rcases h with ⟨e, _⟩ | ⟨g', off', cap', e, hr⟩
  · rw [hv] at e; cases e
  · rw [hv] at e
    simp at e
    obtain ⟨⟨rfl, rfl⟩, rfl⟩ := e
    have hl : j < sz := by have := (List.getElem?_eq_some_iff.1 hj).1; rwa [hsz] at this
    have := hr.cell (j := k * sz + j) (u := u) (by rw [flatOf_get hsz L k j x hx hl]; exact hj)
    rwa [← Nat.add_assoc] at this
set_option maxHeartbeats 16000000 in
theorem backS1_gives {w : World} {sb : Nat} {v : Value} {L : List Sth} (hs : w.heap[sb]? = some (.cells #[v] 69 (0, 0))) (hR : RowAt w 68 11 v L.length (L.flatMap encT)) (hn : L.length < 20000) :
    GivesZ Tryz.prog 72 #[.pointer (some ⟨sb, 0, none⟩)] (PayB encT) L.reverse (fun k => k = sb ∨ v.ownBlock = some k) w := by
  intro l J K W0 hKW hJ hK hY h0
  have mixed := mixed
  obtain ⟨sa, sc, hsv, hsc⟩ := RowAt.shape hR
  have hs0 := Lib.hid ((hKW.block sb (Array.getElem?_eq_some_iff.1 hs).1 (fun e => e (.inl rfl))).trans hs)
  have hR0 := Lib.hid (RowAt.kept hR hKW (fun k hk e => e (.inr hk)))
  have c0 : W0.cell? ⟨sb, 0, none⟩ = some (.slice sa L.length sc) := by rw [← hsv]; exact row_cell hs0.out 0 rfl
  have a1 : IntKind.i64.wrap ((L.length : Int) - 1) = (L.length : Int) - 1 := IntWalk.i64_in _ (by omega)
  have hsv' := Lib.hid hsv
  have hst : Hid (J (fun _ => False) ((L.drop L.length).reverse) W0 ∧ KeptOff (fun q => ¬ (q = sb ∨ v.ownBlock = some q)) W0 W0) := Lib.hid ⟨by rw [List.drop_length]; exact h0, KeptOff.refl _ _⟩
  have hY' := Lib.hid hY
  clear hJ hK hY h0 hKW hs hR hsv
  refine (callsIn_wide (n := 6)).1 ?_
  refine callsIn_of_wp Tryz.func72 rfl trivial ?_ rfl
  simp only [Tryz.ntmps72, List.size_toArray, List.length_cons, List.length_nil, Nat.reduceAdd, Nat.reduceSub, Array.replicate_succ, Array.replicate_zero, List.push_toArray, List.append_toArray, List.nil_append, List.cons_append]
  refine wpIn_wide.2 ?_
  go_wp2_with fail
  refine (wpIn_wide (n := 6)).1 ?_
  clear c0 a1
  gi_loopw [3] (fun pl wr => ∃ k : Nat, pl = .int .i64 ((k : Int) - 1) ∧ k ≤ L.length ∧ Hid (J (fun _ => False) ((L.drop k).reverse) wr ∧ KeptOff (fun q => ¬ (q = sb ∨ v.ownBlock = some q)) W0 wr)) (fun pl _ => (intOf pl + 1).toNat)
  case atStart => exact ⟨L.length, rfl, Nat.le_refl _, hst⟩
  case round =>
    clear hst
    obtain ⟨k, rfl, hk, hI⟩ := hrel
    rcases Nat.eq_zero_or_pos k with rfl | hk0
    · have hfin : Hid (J (fun _ => False) L.reverse wr) := Lib.hid (by simpa using hI.out.1)
      have hneg : ¬ (0 : Int) ≤ ((0 : Nat) : Int) - 1 := by omega
      clear hI hY'
      gi_wp2
      go_end0
      exact ⟨⟨_, rfl⟩, _, .inl hfin.out⟩
    · obtain ⟨j, rfl⟩ : ∃ j, k = j + 1 := ⟨k - 1, by omega⟩
      have hjz : ((j + 1 : Nat) : Int) - 1 = (j : Int) := by omega
      rw [hjz]
      have hjz' := Lib.hid hjz
      clear hjz
      have hj : j < L.length := by omega
      obtain ⟨x, hx⟩ : ∃ x, L[j]? = some x := ⟨_, List.getElem?_eq_getElem hj⟩
      have hRr := RowAt.kept hR0.out hI.out.2 (fun k hk e => e (.inr hk))
      obtain ⟨g, off, c, hv, -⟩ := RowAt.form hRr (by omega)
      have hrg := Lib.hid (RowAt.rangeOf encT_length hRr hv hx)
      have hsv2 := hsv'.out
      rw [hv] at hsv2
      obtain ⟨rfl, rfl⟩ : some ⟨g, off, none⟩ = sa ∧ c = sc := by simpa using hsv2
      have c0 : wr.cell? ⟨sb, 0, none⟩ = some (.slice (some ⟨g, off, none⟩) L.length c) := by
        rw [← hv]
        exact row_cell ((hI.out.2.block sb (Array.getElem?_eq_some_iff.1 hs0.out).1 (fun e => e (.inl rfl))).trans hs0.out) 0 rfl
      have hj0 : (0 : Int) ≤ (j : Int) := by omega
      have hj1 : (j : Int) < (L.length : Int) := by omega
      have a2 : IntKind.i64.wrap ((j : Int) - 1) = (j : Int) - 1 := IntWalk.i64_in _ (by omega)
      have hyy := hY'.out (fun _ => False) (fun _ => False) _ x #[.int .i64 (j : Int), .agg (encT x).toArray] wr hI.out.1 (by rw [← rev_snoc hx]; exact rev_pre L j) ⟨⟨_, rfl⟩, fun _ e => e⟩ (fun _ e => e) (fun _ e => e.elim)
      have hyy' := Lib.hid hyy
      have hnx : Hid (∀ (b : Bool) (Y : World), KeptOff (fun k => ¬ False ∧ ¬ (k = sb ∨ v.ownBlock = some k)) wr Y → (if b = true then J (fun k => False ∧ ¬ False) ((L.drop (j + 1)).reverse ++ [x]) Y else K (fun k => False ∧ ¬ False) ((L.drop (j + 1)).reverse ++ [x]) Y) → (b = true → Hid (J (fun _ => False) ((L.drop j).reverse) Y ∧ KeptOff (fun q => ¬ (q = sb ∨ v.ownBlock = some q)) W0 Y)) ∧ (b = false → ∃ Z, K Z ((L.drop j).reverse) Y)) := Lib.hid (fun b Y hkY hif => by
        have e0 : (fun _ : Nat => False ∧ ¬ False) = (fun _ => False) := by funext k; simp
        rw [e0, ← rev_snoc hx] at hif
        refine ⟨fun e => Lib.hid ⟨by rw [if_pos e] at hif; exact hif, hI.out.2.trans (hkY.mono (fun q _ e => e.2))⟩, fun e => ⟨_, by rw [e, if_neg (by simp)] at hif; exact hif⟩⟩)
      have hlx : (encT x).length = 11 := rfl
      have hEX : ∃ EX, encT x = EX := ⟨_, rfl⟩
      obtain ⟨EX, hEX⟩ := hEX
      rw [hEX] at hrg hlx hyy'
      clear hyy hI hRr hv hsv2 hEX hx
      gi_wp2_with (first
        | (refine wpListIn_load_row rfl 68 (.tmp 15) rfl g (off + j * 11) rfl EX _ hrg.out Tryz.underlying68 rfl (by rw [hlx]; exact infoTh11) ?_)
        | (refine wpListIn_yield2 rfl (.tmp 11) (.tmp 12) (.tmp 16) _ rfl rfl _ _ rfl rfl hyy'.out ?_; rintro e w5 ⟨bl, rfl, hk5, hif⟩; refine ⟨_, rfl, ?_⟩; obtain ⟨ht5, hf5⟩ := hnx.out bl w5 hk5 hif; have hf6 := Lib.hid hf5; clear hk5 hif c0 hyy' hnx hf5))
      · refine bodyPost_ret (results_none rfl _ _ _) rfl ?_
        obtain ⟨Z, hK6⟩ := hf6.out (by simpa using ‹(!bl) = true›)
        exact ⟨⟨_, rfl⟩, Z, .inr ⟨_, rev_pre L j, hK6⟩⟩
      · exact ⟨⟨j, rfl, by omega, ht5 (by simpa using ‹(!bl) = false›)⟩, by simp [intOf]⟩
set_option maxHeartbeats 16000000 in
theorem backE1_gives {w : World} {sb : Nat} {v : Value} {L : List (En × Value)} (hs : w.heap[sb]? = some (.cells #[v] 47 (0, 0))) (hR : RowAt w 44 19 v L.length (L.flatMap encE)) (hn : L.length < 20000) :
    GivesZ Tryz.prog 76 #[.pointer (some ⟨sb, 0, none⟩)] (PayB encE) L.reverse (fun k => k = sb ∨ v.ownBlock = some k) w := by
  intro l J K W0 hKW hJ hK hY h0
  have mixed := mixed
  obtain ⟨sa, sc, hsv, hsc⟩ := RowAt.shape hR
  have hs0 := Lib.hid ((hKW.block sb (Array.getElem?_eq_some_iff.1 hs).1 (fun e => e (.inl rfl))).trans hs)
  have hR0 := Lib.hid (RowAt.kept hR hKW (fun k hk e => e (.inr hk)))
  have c0 : W0.cell? ⟨sb, 0, none⟩ = some (.slice sa L.length sc) := by rw [← hsv]; exact row_cell hs0.out 0 rfl
  have a1 : IntKind.i64.wrap ((L.length : Int) - 1) = (L.length : Int) - 1 := IntWalk.i64_in _ (by omega)
  have hsv' := Lib.hid hsv
  have hst : Hid (J (fun _ => False) ((L.drop L.length).reverse) W0 ∧ KeptOff (fun q => ¬ (q = sb ∨ v.ownBlock = some q)) W0 W0) := Lib.hid ⟨by rw [List.drop_length]; exact h0, KeptOff.refl _ _⟩
  have hY' := Lib.hid hY
  clear hJ hK hY h0 hKW hs hR hsv
  refine (callsIn_wide (n := 6)).1 ?_
  refine callsIn_of_wp Tryz.func76 rfl trivial ?_ rfl
  simp only [Tryz.ntmps76, List.size_toArray, List.length_cons, List.length_nil, Nat.reduceAdd, Nat.reduceSub, Array.replicate_succ, Array.replicate_zero, List.push_toArray, List.append_toArray, List.nil_append, List.cons_append]
  refine wpIn_wide.2 ?_
  go_wp2_with fail
  refine (wpIn_wide (n := 6)).1 ?_
  clear c0 a1
  gi_loopw [3] (fun pl wr => ∃ k : Nat, pl = .int .i64 ((k : Int) - 1) ∧ k ≤ L.length ∧ Hid (J (fun _ => False) ((L.drop k).reverse) wr ∧ KeptOff (fun q => ¬ (q = sb ∨ v.ownBlock = some q)) W0 wr)) (fun pl _ => (intOf pl + 1).toNat)
  case atStart => exact ⟨L.length, rfl, Nat.le_refl _, hst⟩
  case round =>
    clear hst
    obtain ⟨k, rfl, hk, hI⟩ := hrel
    rcases Nat.eq_zero_or_pos k with rfl | hk0
    · have hfin : Hid (J (fun _ => False) L.reverse wr) := Lib.hid (by simpa using hI.out.1)
      have hneg : ¬ (0 : Int) ≤ ((0 : Nat) : Int) - 1 := by omega
      clear hI hY'
      gi_wp2
      go_end0
      exact ⟨⟨_, rfl⟩, _, .inl hfin.out⟩
    · obtain ⟨j, rfl⟩ : ∃ j, k = j + 1 := ⟨k - 1, by omega⟩
      have hjz : ((j + 1 : Nat) : Int) - 1 = (j : Int) := by omega
      rw [hjz]
      have hjz' := Lib.hid hjz
      clear hjz
      have hj : j < L.length := by omega
      obtain ⟨x, hx⟩ : ∃ x, L[j]? = some x := ⟨_, List.getElem?_eq_getElem hj⟩
      have hRr := RowAt.kept hR0.out hI.out.2 (fun k hk e => e (.inr hk))
      obtain ⟨g, off, c, hv, -⟩ := RowAt.form hRr (by omega)
      have hrg := Lib.hid (RowAt.rangeOf encE_length hRr hv hx)
      have hsv2 := hsv'.out
      rw [hv] at hsv2
      obtain ⟨rfl, rfl⟩ : some ⟨g, off, none⟩ = sa ∧ c = sc := by simpa using hsv2
      have c0 : wr.cell? ⟨sb, 0, none⟩ = some (.slice (some ⟨g, off, none⟩) L.length c) := by
        rw [← hv]
        exact row_cell ((hI.out.2.block sb (Array.getElem?_eq_some_iff.1 hs0.out).1 (fun e => e (.inl rfl))).trans hs0.out) 0 rfl
      have hj0 : (0 : Int) ≤ (j : Int) := by omega
      have hj1 : (j : Int) < (L.length : Int) := by omega
      have a2 : IntKind.i64.wrap ((j : Int) - 1) = (j : Int) - 1 := IntWalk.i64_in _ (by omega)
      have hyy := hY'.out (fun _ => False) (fun _ => False) _ x #[.int .i64 (j : Int), .agg (encE x).toArray] wr hI.out.1 (by rw [← rev_snoc hx]; exact rev_pre L j) ⟨⟨_, rfl⟩, fun _ e => e⟩ (fun _ e => e) (fun _ e => e.elim)
      have hyy' := Lib.hid hyy
      have hnx : Hid (∀ (b : Bool) (Y : World), KeptOff (fun k => ¬ False ∧ ¬ (k = sb ∨ v.ownBlock = some k)) wr Y → (if b = true then J (fun k => False ∧ ¬ False) ((L.drop (j + 1)).reverse ++ [x]) Y else K (fun k => False ∧ ¬ False) ((L.drop (j + 1)).reverse ++ [x]) Y) → (b = true → Hid (J (fun _ => False) ((L.drop j).reverse) Y ∧ KeptOff (fun q => ¬ (q = sb ∨ v.ownBlock = some q)) W0 Y)) ∧ (b = false → ∃ Z, K Z ((L.drop j).reverse) Y)) := Lib.hid (fun b Y hkY hif => by
        have e0 : (fun _ : Nat => False ∧ ¬ False) = (fun _ => False) := by funext k; simp
        rw [e0, ← rev_snoc hx] at hif
        refine ⟨fun e => Lib.hid ⟨by rw [if_pos e] at hif; exact hif, hI.out.2.trans (hkY.mono (fun q _ e => e.2))⟩, fun e => ⟨_, by rw [e, if_neg (by simp)] at hif; exact hif⟩⟩)
      have hlx : (encE x).length = 19 := rfl
      have hEX : ∃ EX, encE x = EX := ⟨_, rfl⟩
      obtain ⟨EX, hEX⟩ := hEX
      rw [hEX] at hrg hlx hyy'
      clear hyy hI hRr hv hsv2 hEX hx
      gi_wp2_with (first
        | (refine wpListIn_load_row rfl 44 (.tmp 15) rfl g (off + j * 19) rfl EX _ hrg.out Tryz.underlying44 rfl (by rw [hlx]; exact infoEn) ?_)
        | (refine wpListIn_yield2 rfl (.tmp 11) (.tmp 12) (.tmp 16) _ rfl rfl _ _ rfl rfl hyy'.out ?_; rintro e w5 ⟨bl, rfl, hk5, hif⟩; refine ⟨_, rfl, ?_⟩; obtain ⟨ht5, hf5⟩ := hnx.out bl w5 hk5 hif; have hf6 := Lib.hid hf5; clear hk5 hif c0 hyy' hnx hf5))
      · refine bodyPost_ret (results_none rfl _ _ _) rfl ?_
        obtain ⟨Z, hK6⟩ := hf6.out (by simpa using ‹(!bl) = true›)
        exact ⟨⟨_, rfl⟩, Z, .inr ⟨_, rev_pre L j, hK6⟩⟩
      · exact ⟨⟨j, rfl, by omega, ht5 (by simpa using ‹(!bl) = false›)⟩, by simp [intOf]⟩
end Go.Proofs.YtminfmjgmmkaoaaGreatDoor
namespace Go.Proofs.YtminfmjgmmkaoaaGreatDoor
open Go.ChangeShapes Go.WideShapes Go.ChangeAt Go.Shelf Go.RowKit Go.Lib Go.Sort Go.Deep
set_option linter.unusedVariables false
set_option maxRecDepth 4000
set_option linter.unusedSimpArgs false

theorem lgWayBack_any {w : World} {lb : Nat} {m : M} : Calls Tryz.prog 35 #[.pointer (some ⟨lb, 0, none⟩), m.val] w fun e w' => e = .returned (.func (.func 51) #[] #[.pointer (some ⟨w.heap.size, 0, none⟩), .pointer (some ⟨w.heap.size + 1, 0, none⟩)]) ∧ w' = (w.alloc (.cells #[.pointer (some ⟨lb, 0, none⟩)] 28)).alloc (.cells m.cells 42) := by
  obtain ⟨⟨t, f, q⟩, to', vv, u, an⟩ := m
  simp only [M.val, M.cells]
  go_enter Tryz.func35, Tryz.ntmps35
  go_wp2
  go_ret
  exact ⟨rfl, rfl⟩
theorem backS_any {w : World} {a : Option Addr} {n c : Nat} : Calls Tryz.prog 52 #[.slice a n c] w fun e w' => e = .returned (.func (.func 72) #[] #[.pointer (some ⟨w.heap.size, 0, none⟩)]) ∧ w' = w.alloc (.cells #[.slice a n c] 69) := by
  go_enter Tryz.func52, Tryz.ntmps52
  go_wp2
  go_ret
  exact ⟨rfl, rfl⟩
theorem backE_any {w : World} {a : Option Addr} {n c : Nat} : Calls Tryz.prog 54 #[.slice a n c] w fun e w' => e = .returned (.func (.func 76) #[] #[.pointer (some ⟨w.heap.size, 0, none⟩)]) ∧ w' = w.alloc (.cells #[.slice a n c] 47) := by
  go_enter Tryz.func54, Tryz.ntmps54
  go_wp2
  go_ret
  exact ⟨rfl, rfl⟩
/-- The first p of all entries are ahead of m, the others are not. -/
def PartA (W : Wd) (m : M) (ss : List Sth) (p : Nat) : Prop := p ≤ total ss ∧ ∀ i e, (toldAll W ss)[i]? = some e → (i < p → ltM e.ev m = true) ∧ (p ≤ i → ltM e.ev m = false)
theorem split_at {ss : List Sth} {j : Nat} {S : Sth} (h : ss[j]? = some S) : ss = ss.take j ++ S :: ss.drop (j + 1) := by rw [← drop_form h, List.take_append_drop]
theorem total_take_succ {ss : List Sth} {j : Nat} {S : Sth} (h : ss[j]? = some S) : total (ss.take (j + 1)) = total (ss.take j) + S.L.length := by
  rw [List.take_add_one, h, total_append]
  simp [total]
theorem toldAll_split {W : Wd} {ss : List Sth} {j : Nat} {S : Sth} (h : ss[j]? = some S) : toldAll W ss = toldAll W (ss.take j) ++ (told W S.kept S.L ++ toldAll W (ss.drop (j + 1))) := by
  conv => lhs; rw [split_at h]
  rw [toldAll_append]
  congr 1
theorem told_at {W : Wd} {ss : List Sth} {j i : Nat} {S : Sth} {q : Stp} (h : ss[j]? = some S) (hq : S.L[i]? = some q) : (toldAll W ss)[total (ss.take j) + i]? = some ⟨q.ev, stAt W S.kept S.L i, q.fl, q.sent⟩ := by
  have hi := (List.getElem?_eq_some_iff.1 hq).1
  rw [toldAll_split h, List.getElem?_append_right (by rw [toldAll_length]; omega), toldAll_length, Nat.add_sub_cancel_left, List.getElem?_append_left (by rw [told_length]; exact hi)]
  exact told_get hq
theorem PartA.at {W : Wd} {m : M} {ss : List Sth} {p j : Nat} {S : Sth} (hp : PartA W m ss p) (h : ss[j]? = some S) (hj : p ≤ total (ss.take (j + 1))) : Part m S.L (p - total (ss.take j)) := by
  rw [total_take_succ h] at hj
  refine ⟨by omega, fun i q hq hi => ?_, fun i q hq hi => ?_⟩
  · exact (hp.2 _ _ (told_at h hq)).1 (by omega)
  · exact (hp.2 _ _ (told_at h hq)).2 (by omega)
theorem back_snoc {W : Wd} {ss : List Sth} {j : Nat} {S : Sth} (h : ss[j]? = some S) : (toldAll W (ss.drop j)).reverse = (toldAll W (ss.drop (j + 1))).reverse ++ (told W S.kept S.L).reverse := by
  rw [drop_form h, ← List.reverse_append]
  congr 1
/-- What is told when stretch j is done. -/
theorem back_end {W : Wd} {ss : List Sth} {j p : Nat} {S : Sth} (h : ss[j]? = some S) (h1 : total (ss.take j) ≤ p) (h2 : p ≤ total (ss.take (j + 1))) : ((toldAll W ss).drop p).reverse = (toldAll W (ss.drop (j + 1))).reverse ++ ((told W S.kept S.L).drop (p - total (ss.take j))).reverse := by
  rw [total_take_succ h] at h2
  rw [← List.reverse_append]
  congr 1
  rw [toldAll_split h]
  conv => lhs; rw [show p = (toldAll W (ss.take j)).length + (p - total (ss.take j)) by rw [toldAll_length]; omega]
  rw [← List.drop_drop, List.drop_left, List.drop_append, told_length]
  rw [show p - total (ss.take j) - S.L.length = 0 by omega]
  rfl
theorem back_pre {W : Wd} {ss : List Sth} {j p : Nat} {S : Sth} (h : ss[j]? = some S) (h2 : p ≤ total (ss.take (j + 1))) : (toldAll W (ss.drop (j + 1))).reverse ++ ((told W S.kept S.L).drop (p - total (ss.take j))).reverse <+: ((toldAll W ss).drop p).reverse := by
  rcases Nat.le_total (total (ss.take j)) p with h1 | h1
  · rw [back_end h h1 h2]
    exact List.prefix_refl _
  · rw [show p - total (ss.take j) = 0 by omega, List.drop_zero, ← back_snoc h]
    refine ⟨((toldAll W (ss.take j)).drop p).reverse, ?_⟩
    rw [← List.reverse_append]
    congr 1
    conv => rhs; rw [← List.take_append_drop j ss, toldAll_append, List.drop_append, toldAll_length, show p - total (ss.take j) = 0 by omega]
    rfl
theorem rev_next {α : Type} {L : List α} {r : Nat} {x : α} (hr : r ≤ L.length) (h : (L.drop r).reverse ++ [x] <+: L.reverse) : ∃ j, r = j + 1 ∧ L[j]? = some x := by
  obtain ⟨t, ht⟩ := h
  have e : L.reverse = (L.drop r).reverse ++ (L.take r).reverse := by rw [← List.reverse_append, List.take_append_drop]
  rw [e, List.append_assoc, List.append_cancel_left_eq] at ht
  cases r with
  | zero => simp at ht
  | succ j =>
    refine ⟨j, rfl, ?_⟩
    have hj : j < L.length := by omega
    rw [List.take_add_one, List.getElem?_eq_getElem hj, Option.toList_some, List.reverse_append] at ht
    simp at ht
    rw [List.getElem?_eq_getElem hj, ht.1]
theorem rev_all {α : Type} {L : List α} {r : Nat} (hr : r ≤ L.length) (h : L.reverse = (L.drop r).reverse) : r = 0 := by
  have := congrArg List.length h
  simp at this
  omega
/-- What of a log the way back reads that may change in part. -/
def RdL (lb : Nat) (v : Wv) (W : Wd) (every : Int) (sv : Value) (len : Int) (X : World) : Prop := ∃ st stuck, X.heap[lb]? = some (.cells (logC v W every sv len st stuck) 71 (0, 0))
/-- What the way back reads. -/
def HB (b : World) (pb mb : Nat) (v : Wv) (sv : Value) (ss : List Sth) (k : Nat) : Prop := k < b.heap.size ∨ k = pb ∨ k = mb ∨ sv.ownBlock = some k ∨ ∃ S ∈ ss, SRead v S k
/-- Between two stretches. -/
def OutI (Zo Hb : Nat → Prop) (w2 : World) (J : (Nat → Prop) → List En → World → Prop) (W : Wd) (ss : List Sth) (p : Nat) (Zi : Nat → Prop) (pre : List Sth) (X : World) : Prop :=
  ∃ r, r ≤ ss.length ∧ pre = (ss.drop r).reverse ∧ p ≤ total (ss.take r) ∧ J (fun q => Zo q ∨ Zi q) (toldAll W (ss.drop r)).reverse X ∧ (∀ q, Zi q → w2.heap.size ≤ q) ∧ KeptOff (fun q => ¬ (Zo q ∨ Hb q)) w2 X
theorem OutI.steps {Zo Hb : Nat → Prop} {w2 : World} {J : (Nat → Prop) → List En → World → Prop} {W : Wd} {ss : List Sth} {p : Nat} (hJ : StepsOn J) (hZo : ∀ q, Zo q ∨ Hb q → q < w2.heap.size) : StepsOn (OutI Zo Hb w2 J W ss p) := by
  rintro Z Z' s X Y ⟨r, hr, h0, h4, h1, h2, h3⟩ hk hz
  have hs := h3.size
  refine ⟨r, hr, h0, h4, hJ _ _ _ X Y h1 (hk.mono (fun q _ e => .inr e)) (fun q hq => ?_), fun q hq => ?_, h3.then_new hk (fun q hq e => absurd (h2 q e) (by omega))⟩
  · rcases hq with e | e
    · exact .inl (.inl e)
    · exact (hz q e).imp .inr id
  · rcases hz q hq with e | e
    · exact h2 q e
    · omega
/-- How the way back is left in its midst. -/
def OutX (J K : (Nat → Prop) → List En → World → Prop) (T : List En) (c : Code) (Zi : Nat → Prop) (pre : List Sth) (X : World) : Prop :=
  c = .ret ∧ ∃ Z, (∀ q, Zi q → Z q) ∧ (J Z T X ∨ ∃ p, p <+: T ∧ K Z p X)
theorem OutX.steps {J K : (Nat → Prop) → List En → World → Prop} {T : List En} (hJ : StepsOn J) (hK : StepsOn K) (c : Code) : StepsOn (OutX J K T c) := by
  rintro Z Z' s X Y ⟨h0, Zf, h1, h2⟩ hk hz
  refine ⟨h0, fun q => Zf q ∨ X.heap.size ≤ q, fun q hq => (hz q hq).imp (h1 q) id, ?_⟩
  rcases h2 with h2 | ⟨pre, h3, h2⟩
  · exact .inl (hJ _ _ _ X Y h2 (hk.mono (fun q _ e => h1 q e)) (fun q e => e))
  · exact .inr ⟨pre, h3, hK _ _ _ X Y h2 (hk.mono (fun q _ e => h1 q e)) (fun q e => e)⟩
/-- Between two entries of a stretch. -/
def InI (Zf Hb : Nat → Prop) (w5 : World) (J : (Nat → Prop) → List En → World → Prop) (done : List En) (L : List (En × Value)) (Zj : Nat → Prop) (pre : List (En × Value)) (X : World) : Prop :=
  ∃ rest, L.reverse = pre ++ rest ∧ J (fun q => (Zf q ∨ ∃ y ∈ rest, y.2.ownBlock = some q) ∨ Zj q) (done ++ pre.map Prod.fst) X ∧ (∀ q, Zj q → w5.heap.size ≤ q) ∧ KeptOff (fun q => ¬ (Zf q ∨ Hb q)) w5 X ∧ ∀ y ∈ rest, Sent X y.2 y.1.sent ∧ TagV X 42 y.2
theorem InI.steps {Zf Hb : Nat → Prop} {w5 : World} {J : (Nat → Prop) → List En → World → Prop} {done : List En} {L : List (En × Value)} (hJ : StepsOn J) (hZf : ∀ q, Zf q ∨ Hb q → q < w5.heap.size) (hL : ∀ y ∈ L, ∀ k, y.2.ownBlock = some k → k < w5.heap.size) : StepsOn (InI Zf Hb w5 J done L) := by
  rintro Z Z' s X Y ⟨rest, h0, h1, h2, h3, h4⟩ hk hz
  have hs := h3.size
  have hin : ∀ y ∈ rest, y ∈ L := fun y hy => List.mem_reverse.1 (by rw [h0]; exact List.mem_append_right _ hy)
  refine ⟨rest, h0, hJ _ _ _ X Y h1 (hk.mono (fun q _ e => .inr e)) (fun q hq => ?_), fun q hq => ?_, h3.then_new hk (fun q hq e => absurd (h2 q e) (by omega)), fun y hy => ?_⟩
  · rcases hq with e | e
    · exact .inl (.inl e)
    · exact (hz q e).imp .inr id
  · rcases hz q hq with e | e
    · exact h2 q e
    · omega
  · exact ⟨(h4 y hy).1.kept hk (fun k e e2 => by have := hL y (hin y hy) k e; have := h2 k e2; omega), (h4 y hy).2.kept hk (fun k e e2 => by have := hL y (hin y hy) k e; have := h2 k e2; omega)⟩
/-- How a stretch's way is left in its midst. -/
def InX (Zf Hb : Nat → Prop) (w5 : World) (K : (Nat → Prop) → List En → World → Prop) (T : List En) (c : Code) (Zj : Nat → Prop) (pre : List (En × Value)) (X : World) : Prop :=
  c = .ret ∧ ∃ Z, (∀ q, Zj q → Z q) ∧ (∀ q, Zf q → Z q) ∧ (∃ p, p <+: T ∧ K Z p X) ∧ (∀ q, Zj q → w5.heap.size ≤ q) ∧ KeptOff (fun q => ¬ (Zf q ∨ Hb q)) w5 X
theorem InX.steps {Zf Hb : Nat → Prop} {w5 : World} {K : (Nat → Prop) → List En → World → Prop} {T : List En} (hK : StepsOn K) (hZf : ∀ q, Zf q ∨ Hb q → q < w5.heap.size) (c : Code) : StepsOn (InX Zf Hb w5 K T c) := by
  rintro Z Z' s X Y ⟨h0, Zk, h1, h2, ⟨pre, h3, h4⟩, h5, h6⟩ hk hz
  have hs := h6.size
  refine ⟨h0, fun q => Zk q ∨ X.heap.size ≤ q, fun q hq => (hz q hq).imp (h1 q) id, fun q hq => .inl (h2 q hq), ⟨pre, h3, hK _ _ _ X Y h4 (hk.mono (fun q _ e => h1 q e)) (fun q e => e)⟩, fun q hq => ?_, h6.then_new hk (fun q hq e => absurd (h5 q e) (by omega))⟩
  rcases hz q hq with e | e
  · exact h5 q e
  · omega
end Go.Proofs.YtminfmjgmmkaoaaGreatDoor
