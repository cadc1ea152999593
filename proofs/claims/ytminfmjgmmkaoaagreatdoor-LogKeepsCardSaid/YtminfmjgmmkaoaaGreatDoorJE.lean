/-
  The way back over a log's entries.
-/
import Derived.Test.YtminfmjgmmkaoaaGreatDoorJD
namespace Go.Proofs.YtminfmjgmmkaoaaGreatDoor
open Go.ChangeShapes Go.WideShapes Go.ChangeAt Go.Shelf Go.RowKit Go.Lib Go.Sort Go.Deep
set_option linter.unusedVariables false
set_option maxRecDepth 4000
set_option linter.unusedSimpArgs false
attribute [local go_sem] Oper.semAt_some

theorem callsIn_round {r n : Nat} {P : Program} {f : FuncId} {args : Array Value} {w : World} {R : Ending → World → Prop} (h : Calls P f args w R) : CallsIn (Fence.wide.inRound r) n P f args w R := (callsIn_wide (n := n)).2 h
set_option maxHeartbeats 16000000 in
theorem lgWayBack1_gives {b w : World} {eb : Addr} (hE : ErrIs b eb) (hTe : ErrT b) (hb : Below b.heap.size b w) {pb mb lb p : Nat} {v : Wv} {W : Wd} {every len : Int} {sv : Value} {ss : List Sth} {m : M}
    (hp : w.heap[pb]? = some (.cells #[.pointer (some ⟨lb, 0, none⟩)] 28 (0, 0))) (hm : w.heap[mb]? = some (.cells m.cells 42 (0, 0))) (rd : LogRd w v W sv ss)
    (ok : ∀ S ∈ ss, StaOk S.kept ∧ ∀ p ∈ S.L, In64 p.ev.v) (hn : ss.length < 16384) (hL : ∀ S ∈ ss, S.L.length < 16384) (hsl : ∀ S ∈ ss, ∀ p ∈ S.L, p.sent.length ≤ 16384) (hpa : PartA W m ss p) :
    GivesR Tryz.prog 51 #[.pointer (some ⟨pb, 0, none⟩), .pointer (some ⟨mb, 0, none⟩)] PayE ((toldAll W ss).drop p).reverse (HB b pb mb v sv ss) (RdL lb v W every sv len) w := by
  intro l J K W0 hKW hJ hK hJR hY h0
  have mixed := mixed
  have hWb := Lib.hid (hb.trans (hKW.below (fun k _ e => Nat.le_of_not_lt fun hh => e (.inl hh)) hb.size))
  have hp0 := Lib.hid ((hKW.block pb (Array.getElem?_eq_some_iff.1 hp).1 (fun e => e (.inr (.inl rfl)))).trans hp)
  have hm0 := Lib.hid ((hKW.block mb (Array.getElem?_eq_some_iff.1 hm).1 (fun e => e (.inr (.inr (.inl rfl))))).trans hm)
  have hab : Hid (AtT W0 sv ss) := Lib.hid (RowAt.kept rd.abv hKW (fun k hk e => e (.inr (.inr (.inr (.inl hk))))))
  have hsr : Hid (∀ S ∈ ss, SthRd W0 v W S) := Lib.hid (fun S hS => (rd.sth hS).kept hKW (fun k hk e => e (.inr (.inr (.inr (.inr ⟨S, hS, hk⟩))))))
  have hHlt : Hid (∀ k, HB b pb mb v sv ss k → k < W0.heap.size) := Lib.hid (fun k hk => by
    rcases hk with hk | rfl | rfl | hk | ⟨S, hS, hk⟩
    · have := hWb.out.size; omega
    · exact (Array.getElem?_eq_some_iff.1 hp0.out).1
    · exact (Array.getElem?_eq_some_iff.1 hm0.out).1
    · obtain ⟨cur, h1⟩ := RowAt.tag hab.out hk
      exact (Array.getElem?_eq_some_iff.1 h1).1
    · exact (hsr.out S hS).lt k hk)
  have hJ' := Lib.hid hJ
  have hK' := Lib.hid hK
  have hY' := Lib.hid hY
  have hJR' := Lib.hid hJR
  have hEb := Lib.hid hE
  have hTb := Lib.hid hTe
  have hpa' := Lib.hid hpa
  obtain ⟨sa, sc, hsv, -⟩ := RowAt.shape rd.abv
  obtain ⟨st0, stuck0, hrow0⟩ := hJR _ _ _ h0
  have hbl := (Below.refl _ W0).alloc (Nat.le_refl _) (.cells #[.func (.yield l) #[] #[]] 103)
  have hsz1 : (W0.alloc (.cells #[.func (.yield l) #[] #[]] 103)).heap.size = W0.heap.size + 1 := by simp
  have c1 : (W0.alloc (.cells #[.func (.yield l) #[] #[]] 103)).cell? ⟨pb, 0, none⟩ = some (.pointer (some ⟨lb, 0, none⟩)) := row_cell ((hbl.block _ (Array.getElem?_eq_some_iff.1 hp0.out).1).trans hp0.out) 0 rfl
  have c5 : (W0.alloc (.cells #[.func (.yield l) #[] #[]] 103)).cell? ⟨lb, 5, none⟩ = some (.slice sa ss.length sc) := by rw [← hsv]; exact row_cell ((hbl.block _ (Array.getElem?_eq_some_iff.1 hrow0).1).trans hrow0) 5 rfl
  have hbl2 := Lib.hid (hbl.alloc (by simp) (.cells #[.slice sa ss.length sc] 69))
  have hbl12 := (Below.refl _ (W0.alloc (.cells #[.func (.yield l) #[] #[]] 103))).alloc (Nat.le_refl _) (.cells #[.slice sa ss.length sc] 69)
  have hyb2 := Lib.hid ((hbl12.block W0.heap.size (by omega)).trans (heap_alloc_new W0 (.cells #[.func (.yield l) #[] #[]] 103)))
  have hsb2 := heap_alloc_new (W0.alloc (.cells #[.func (.yield l) #[] #[]] 103)) (.cells #[.slice sa ss.length sc] 69)
  rw [hsz1] at hsb2
  have hsb2' := Lib.hid hsb2
  have hsz2 : ((W0.alloc (.cells #[.func (.yield l) #[] #[]] 103)).alloc (.cells #[.slice sa ss.length sc] 69)).heap.size = W0.heap.size + 1 + 1 := by simp
  obtain ⟨T, hT0⟩ : ∃ T, ((toldAll W ss).drop p).reverse = T := ⟨_, rfl⟩
  have hTp : Hid (∀ j S, ss[j]? = some S → p ≤ total (ss.take (j + 1)) → (toldAll W (ss.drop (j + 1))).reverse ++ ((told W S.kept S.L).drop (p - total (ss.take j))).reverse <+: T) := Lib.hid (fun j S h1 h2 => by rw [← hT0]; exact back_pre h1 h2)
  have hTe2 : Hid (∀ j S, ss[j]? = some S → total (ss.take j) ≤ p → p ≤ total (ss.take (j + 1)) → T = (toldAll W (ss.drop (j + 1))).reverse ++ ((told W S.kept S.L).drop (p - total (ss.take j))).reverse) := Lib.hid (fun j S h1 h2 h3 => by rw [← hT0]; exact back_end h1 h2 h3)
  have hTa : Hid (p = 0 → (toldAll W (ss.drop 0)).reverse = T) := Lib.hid (fun e => by rw [← hT0, e]; rfl)
  rw [hT0] at hY' ⊢
  have h0' := Lib.hid h0
  clear hJ hK hY hJR hE hTe hpa h0 hKW hb hp hm rd hbl hbl12 hrow0 hsb2 hsz1 hT0
  refine (callsIn_wide (n := 6)).1 ?_
  refine callsIn_of_wp_marks Tryz.func51 rfl trivial (wpIn_mono (Q := noPanic (bodyPostM Fence.wide 6 Tryz.prog Tryz.f51 fun e W' => (∃ v, e = .returned v) ∧ ∃ Z, J Z T W' ∨ ∃ pre, pre <+: T ∧ K Z pre W')) ?_ (noPanic_le _)) rfl
  simp only [Tryz.ntmps51, List.size_toArray, List.length_cons, List.length_nil, Nat.reduceAdd, Nat.reduceSub, Array.replicate_succ, Array.replicate_zero, List.push_toArray, List.append_toArray, List.nil_append, List.cons_append]
  refine wpIn_wide.2 ?_
  go_wp2_with (go_at_call 52; refine backS_any.mono ?_; rintro e w2 ⟨rfl, rfl⟩)
  refine (wpIn_wide (n := 6)).1 ?_
  clear c1 c5
  generalize (W0.alloc (.cells #[.func (.yield l) #[] #[]] 103)).alloc (.cells #[.slice sa ss.length sc] 69) = w2 at *
  have hsz2' := Lib.hid hsz2
  clear hsz2
  obtain ⟨Zo, hZo0⟩ : ∃ Zo : Nat → Prop, Zo = fun q => q = W0.heap.size ∨ q = W0.heap.size + 1 := ⟨_, rfl⟩
  have hZo := Lib.hid hZo0
  clear hZo0
  have hZlt2 : Hid (∀ q, Zo q ∨ HB b pb mb v sv ss q → q < w2.heap.size) := Lib.hid (fun q hq => by
    have h1 := hsz2'.out
    rcases hq with e | e
    · rw [hZo.out] at e
      omega
    · have := hHlt.out q e; omega)
  have hkW2 : Hid (KeptOff (fun q => ¬ HB b pb mb v sv ss q) W0 w2) := Lib.hid (.of_below hbl2.out)
  have hab2 : AtT w2 sv ss := RowAt.kept hab.out hkW2.out (fun k hk e => e (.inr (.inr (.inr (.inl hk)))))
  have hgS := Lib.hid (backS1_gives hsb2'.out (hsv ▸ hab2) (by omega))
  have hI0 : Hid (OutI Zo (HB b pb mb v sv ss) w2 J W ss p (fun _ => False) [] w2) := Lib.hid ⟨ss.length, Nat.le_refl _, by simp, by rw [List.take_length]; exact hpa'.out.1, by
    rw [List.drop_length]
    exact hJ'.out _ _ _ W0 w2 h0'.out (.of_below hbl2.out) (fun q hq => by
      rcases hq with e | e
      · rw [hZo.out] at e
        exact .inr (by omega)
      · exact e.elim), fun q e => e.elim, KeptOff.refl _ _⟩
  have hHo : Hid (∀ k, (k = W0.heap.size + 1 ∨ (Value.slice sa ss.length sc).ownBlock = some k) → Zo k ∨ HB b pb mb v sv ss k) := Lib.hid (fun k hk => by
    rcases hk with e | e
    · left; rw [hZo.out]; exact .inr e
    · exact .inr (.inr (.inr (.inr (.inl (hsv ▸ e))))))
  clear hab2 h0'
  refine wpIn_rangeFunc_R (gf := 72) (lb := #[.pointer (some ⟨W0.heap.size + 1, 0, none⟩)]) rfl (enters_of Tryz.func72 (by kernel_rfl) rfl) (H := fun k => k = W0.heap.size + 1 ∨ (Value.slice sa ss.length sc).ownBlock = some k) (Rd := RdL lb v W every sv len) (fun k hk => hZlt2.out k (hHo.out k hk)) hgS.out.toR (fun G x vs X h => by obtain ⟨⟨i, rfl⟩, _⟩ := h; rfl)
    (OutI Zo (HB b pb mb v sv ss) w2 J W ss p) (OutX J K T) (OutI.steps hJ'.out hZlt2.out) (fun c => OutX.steps hJ'.out hK'.out c) (fun Z s X h => by obtain ⟨r, _, _, _, h1, _⟩ := h; exact hJR'.out _ _ _ h1) hI0.out ?round ?done ?stop
  case done =>
    intro D Zf W2 hD hZfD hI hdef
    obtain ⟨r, hr, hpe, hpr, hJX, hZf, hKX⟩ := hI
    obtain rfl := rev_all hr hpe
    have hp0' : p = 0 := by simpa [total] using hpr
    have hend : Hid (∀ w', KeptOff (fun k => k ∈ [D]) W2 w' → ∃ Z, J Z T w' ∨ ∃ pre, pre <+: T ∧ K Z pre w') := Lib.hid (fun w' hk => ⟨_, .inl (by
      rw [← hTa.out hp0']
      exact hJ'.out _ _ _ W2 w' hJX (hk.mono (fun q _ e => by obtain rfl := List.mem_singleton.1 e; exact .inr hZfD)) (fun q e => .inl e))⟩)
    have hM : Hid (Marks [D] W2) := Lib.hid ⟨by simp, fun D' hD' => by obtain rfl := List.mem_singleton.1 hD'; exact hdef⟩
    clear hpe hpr hJX hZf hKX hdef hI0 hgS hHo
    dsimp only [Exit.inBlock, Exit.then]
    go_wp2
    exact leaves_marks (by simp) [D] W2 hM.out (fun w' hk => ⟨_, results_none rfl _ _ _, ⟨_, rfl⟩, hend.out w' hk⟩)
  case stop =>
    intro D cx Zf pre W2 hD hZfD hpre hI hdef
    obtain ⟨rfl, Z, hZ, hJK⟩ := hI
    have hend : Hid (∀ w', KeptOff (fun k => k ∈ [D]) W2 w' → ∃ Z, J Z T w' ∨ ∃ pre, pre <+: T ∧ K Z pre w') := Lib.hid (fun w' hk => by
      have hk' : KeptOff Z W2 w' := hk.mono (fun q _ e => by obtain rfl := List.mem_singleton.1 e; exact hZ _ hZfD)
      rcases hJK with h1 | ⟨p1, h1, h2⟩
      · exact ⟨Z, .inl (hJ'.out _ _ _ W2 w' h1 hk' (fun q e => .inl e))⟩
      · exact ⟨Z, .inr ⟨p1, h1, hK'.out _ _ _ W2 w' h2 hk' (fun q e => .inl e)⟩⟩)
    have hM : Hid (Marks [D] W2) := Lib.hid ⟨by simp, fun D' hD' => by obtain rfl := List.mem_singleton.1 hD'; exact hdef⟩
    clear hJK hdef hI0 hgS hHo hpre
    gi_wp2
    exact leaves_marks (by simp) [D] W2 hM.out (fun w' hk => ⟨_, results_none rfl _ _ _, ⟨_, rfl⟩, hend.out w' hk⟩)
  case round =>
    intro l1 Zi G pre x vs X hI hpre hpay hG hZlt hsz hvs
    obtain ⟨r, hr, hpe, hpr, hJX0, hZi, hKX0⟩ := hI
    obtain ⟨⟨ix, rfl⟩, hGn⟩ := hpay
    obtain ⟨j, rfl, hS⟩ := rev_next hr (by rw [← hpe]; exact hpre)
    have hSm := List.mem_of_getElem? hS
    have hJX := Lib.hid hJX0
    have hKX := Lib.hid hKX0
    clear hJX0 hKX0 hI0 hgS hpre
    have hlx : (encT x).length = 11 := rfl
    have hA := heap_alloc_new X (.cells z11 68)
    have hC := Lib.hid ((Below.refl _ X).alloc (Nat.le_refl _) (.cells z11 68))
    have hx11 : Hid ((encT x).toArray.size = 11 ∧ (encT x).toArray.all (·.oneCell') = true) := Lib.hid ⟨rfl, by
      obtain ⟨a, c, e, -⟩ := RowAt.shape ((hsr.out x hSm).stp)
      simp [encT, encSt, e, Value.oneCell']⟩
    simp only [z11] at hA hC
    have hXT : ∃ XT, encT x = XT := ⟨_, rfl⟩
    obtain ⟨XT, hXT0⟩ := hXT
    rw [hXT0] at hlx hx11 ⊢
    have hXT := Lib.hid hXT0
    clear hXT0
    gi_wp2_with (first
      | (refine wpListIn_store_row rfl 68 (.tmp 5) (.tmp 15) rfl X.heap.size XT.toArray rfl rfl 68 _ hA (by rw [hx11.out.1]; exact infoTh11) (by rw [hx11.out.1]; rfl) hx11.out.2 ?_))
    have hXe := Lib.hid (setRow_heap (new := XT.toArray) hA)
    have hBa := Lib.hid (below_row hC.out (g := X.heap.size) (Nat.le_refl _) XT.toArray)
    clear hA hC
    generalize (X.alloc (Obj.cells _ 68)).setRow X.heap.size XT.toArray = Wa at *
    refine ⟨.of_below hBa.out, fun Wb hkb hsb hrec hZl hGl hl1 => ?_⟩
    obtain ⟨rl1, hrl1⟩ := hrec
    have hwX := hKX.out.size
    have hwa := hBa.out.size
    have hxl := (Array.getElem?_eq_some_iff.1 hXe.out).1
    have hkb0 : Hid (KeptOff (fun q => Zi q ∧ ¬ G q) X Wb) := Lib.hid ((KeptOff.of_below hBa.out).trans hkb)
    have hXb := Lib.hid ((hkb.block _ hxl (fun e => by have := hZlt _ e.1; omega)).trans hXe.out)
    have hkw2 : Hid (KeptOff (fun q => ¬ (Zo q ∨ HB b pb mb v sv ss q)) w2 Wb) := Lib.hid (hKX.out.trans (hkb0.out.mono (fun q _ e h => by have := hZi q e.1; have := hZlt2.out q h; omega)))
    have hJb : Hid (J (fun q => Zo q ∨ Zi q) (toldAll W (ss.drop (j + 1))).reverse Wb) := Lib.hid (hJ'.out _ _ _ X Wb hJX.out (hkb0.out.mono (fun q _ e => .inr e.1)) (fun q e => .inl e))
    obtain ⟨stb, stuckb, hrowb0⟩ := hJR'.out _ _ _ hJb.out
    have hrowb := Lib.hid hrowb0
    have hkWb : Hid (KeptOff (fun q => ¬ HB b pb mb v sv ss q) W0 Wb) := Lib.hid (hkW2.out.trans (hkw2.out.mono (fun q _ e h => e (.inr h))))
    have hSx : Hid (SthRd Wb v W x) := Lib.hid ((hsr.out x hSm).kept hkWb.out (fun k hk e => e (.inr (.inr (.inr (.inr ⟨x, hSm, hk⟩))))))
    have hpbb := Lib.hid ((hkWb.out.block pb (Array.getElem?_eq_some_iff.1 hp0.out).1 (fun e => e (.inr (.inl rfl)))).trans hp0.out)
    have hmbb := Lib.hid ((hkWb.out.block mb (Array.getElem?_eq_some_iff.1 hm0.out).1 (fun e => e (.inr (.inr (.inl rfl))))).trans hm0.out)
    have hxr : Hid (∀ w', Below Wb.heap.size Wb w' → w'.rangeAt X.heap.size 0 XT) := Lib.hid (fun w' h => by
      have := range_block ((h.block _ (Array.getElem?_eq_some_iff.1 hXb.out).1).trans hXb.out)
      simpa using this)
    have hmr : Hid (Wb.rangeAt mb 0 (encMs m)) := Lib.hid (by
      have := range_block hmbb.out
      exact this)
    have hplace : Hid (Calls Tryz.prog 53 #[.agg XT.toArray, .agg (encMs m).toArray] Wb fun e w' => e = .returned (.int .i64 ((p - total (ss.take j) : Nat) : Int)) ∧ Below Wb.heap.size Wb w') := Lib.hid (by rw [← hXT.out]; exact spPlace_any hSx.out.stp (hL x hSm) (hpa'.out.at hS hpr))
    have hB0 := hWb.out.size
    have hw2s := hsz2'.out
    have hpL : p - total (ss.take j) ≤ x.L.length := by have := total_take_succ hS; omega
    have hpS16 : p - total (ss.take j) < 16384 := by have := hL x hSm; omega
    obtain ⟨pS, hpS0⟩ : ∃ pS, p - total (ss.take j) = pS := ⟨_, rfl⟩
    rw [hpS0] at hplace hpL hpS16
    have hpS := Lib.hid hpS0
    clear hpS0
    have hlm : (encMs m).length = 7 := rfl
    have hbW : Hid (Below b.heap.size b Wb) := Lib.hid (hWb.out.trans (hkWb.out.below (fun k _ e => Nat.le_of_not_lt fun hh => e (.inl hh)) hWb.out.size))
    have hZiB : Hid (∀ q, (Zo q ∨ Zi q) → q < Wb.heap.size ∧ W0.heap.size ≤ q) := Lib.hid (fun q hq => by
      have h1 := hkb0.out.size
      rcases hq with e | e
      · rw [hZo.out] at e; omega
      · have := hZi q e; have := hZlt q e; omega)
    have hyb := Lib.hid ((hkw2.out.block _ (Array.getElem?_eq_some_iff.1 hyb2.out).1 (fun e => e (.inl (by rw [hZo.out]; exact .inl rfl)))).trans hyb2.out)
    have hrl := Lib.hid hrl1
    clear hrowb0 hrl1 hkb hXe hBa hJX
    -- the rest of the round, behind what it is to lead to
    obtain ⟨R, hR0⟩ : ∃ R : Exit → Act → World → Prop, ∀ e a3 W3, R e a3 W3 ↔ KeptOff (fun k => ¬ Zi k ∧ ¬ (k = W0.heap.size + 1 ∨ (Value.slice sa ss.length sc).ownBlock = some k)) Wb W3 ∧ LeftZ (OutI Zo (HB b pb mb v sv ss) w2 J W ss p) (OutX J K T) (fun k => Zi k ∧ ¬ G k) (pre ++ [x]) W3 e := ⟨_, fun _ _ _ => Iff.rfl⟩
    have hR := Lib.hid hR0
    clear hR0
    refine wpIn_mono (Q := noPanic R) ?_ (fun e a3 W3 h => (hR.out e a3 W3).1 (noPanic_le _ e a3 W3 h))
    clear hx11
    simp only [Act.put]
    gi_wp2_with (first
      | (refine wpListIn_load_row rfl 68 (.tmp 5) rfl X.heap.size 0 rfl XT _ (hxr.out _ (Below.refl _ _)) Tryz.underlying68 rfl (by rw [hlx]; exact infoTh11) ?_)
      | (refine wpListIn_load_row rfl 42 (.tmp 2) rfl mb 0 rfl (encMs m) _ hmr.out Tryz.underlying42 rfl (by rw [hlm]; exact infoMe) ?_)
      | (refine ⟨trivial, ?_⟩; gi_at_call 53; refine (callsIn_round hplace.out).mono ?_; rintro e wc ⟨rfl, hbc⟩))
    have hbcc := Lib.hid hbc
    clear hplace hmr hbc
    have hlw : (wordC v W).length = 4 := rfl
    have hxrc : Hid (∀ w', Below wc.heap.size wc w' → w'.rangeAt X.heap.size 0 XT) := Lib.hid (fun w' h => hxr.out w' (hbcc.out.trans (h.mono hbcc.out.size)))
    have hcpb : Hid (∀ w', Below wc.heap.size wc w' → w'.cell? ⟨pb, 0, none⟩ = some (.pointer (some ⟨lb, 0, none⟩))) := Lib.hid (fun w' h => row_cell (((hbcc.out.trans (h.mono hbcc.out.size)).block _ (Array.getElem?_eq_some_iff.1 hpbb.out).1).trans hpbb.out) 0 rfl)
    have hwdr : Hid (∀ w', Below wc.heap.size wc w' → w'.rangeAt lb 0 (wordC v W)) := Lib.hid (fun w' h => logC_world (((hbcc.out.trans (h.mono hbcc.out.size)).block _ (Array.getElem?_eq_some_iff.1 hrowb.out).1).trans hrowb.out))
    have hse : Hid (∀ w', Calls Tryz.prog 50 #[.agg XT.toArray, .agg (wordC v W).toArray, .int .i64 (pS : Int)] w' fun e w2 => e = .returned (.func (.func 69) #[] #[.pointer (some ⟨w'.heap.size, 0, none⟩), .pointer (some ⟨w'.heap.size + 1, 0, none⟩), .pointer (some ⟨w'.heap.size + 1 + 1, 0, none⟩)]) ∧
      Hid (Tri w' w2 (.cells XT.toArray 68) (.cells (wordC v W).toArray 26) (.cells #[.int .i64 (pS : Int)] 3))) := Lib.hid (fun w' => by rw [← hXT.out]; exact spEntries_any (f := pS))
    have hcol : Hid (∀ wd w3, Below wc.heap.size wc wd → Tri wd w3 (.cells XT.toArray 68) (.cells (wordC v W).toArray 26) (.cells #[.int .i64 (pS : Int)] 3) → Calls Tryz.prog 33 #[.func (.func 69) #[] #[.pointer (some ⟨wd.heap.size, 0, none⟩), .pointer (some ⟨wd.heap.size + 1, 0, none⟩), .pointer (some ⟨wd.heap.size + 1 + 1, 0, none⟩)]] w3 fun e w' => ∃ a c, e = .returned (.slice a ((told W x.kept x.L).drop pS).length c) ∧ Hid (TellsE w3 ((told W x.kept x.L).drop pS) (.slice a ((told W x.kept x.L).drop pS).length c) w')) := Lib.hid (fun wd w3 hbd ht => by
      have hb3 : Below Wb.heap.size Wb w3 := hbcc.out.trans ((hbd.trans (ht.b.mono hbd.size)).mono hbcc.out.size)
      have hSr : SthRd w3 v W x := hSx.out.below hb3
      have hgv := spEntries1_gives (f := pS) hEb.out hTb.out (hbW.out.trans (hb3.mono hbW.out.size)) (xb := wd.heap.size) (wb := wd.heap.size + 1) (fb := wd.heap.size + 1 + 1) (v := v) (W := W) (S := x) (by rw [hXT.out]; exact ht.a) ht.s ht.m hpL hSr (ok x hSm) (hL x hSm) (hsl x hSm)
      refine collectE_any hgv (enters_of Tryz.func69 (by kernel_rfl) rfl) (fun k hk => ?_) (by rw [List.length_drop, told_length]; have := hL x hSm; omega)
      have h1 := ht.sz
      rcases hk with e | rfl | rfl | rfl | e
      · have := hb3.size; have := hbW.out.size; omega
      · omega
      · omega
      · omega
      · exact hSr.lt k e)
    have hlnE : ((told W x.kept x.L).drop pS).length = x.L.length - pS := by rw [List.length_drop, told_length]
    rw [hlnE] at hcol
    have eg50 := enters_of Tryz.func50 (by kernel_rfl) rfl
    have eg33 := enters_of Tryz.func33 (by kernel_rfl) rfl
    have eg54 := enters_of Tryz.func54 (by kernel_rfl) rfl
    have hcpl : wc.drew.heap.size = wc.heap.size := rfl
    generalize hcw : wordC v W = cw at *
    have hcw' := Lib.hid hcw
    clear hcw
    refine wpIn_region_R (fun w' => Below wc.heap.size wc w') (by kernel_rfl) ?_
    have hHd : Below wc.heap.size wc wc.drew := (Below.refl _ wc).drew
    refine wpAnyR_take (i := 0) (oi := { dst := some 19, op := Op.load 68 (Operand.tmp 5), type := 68, pos := "log.go:139", after := #[], guard := none }) (v := .agg (XT).toArray) rfl (by kernel_rfl) (by kernel_rfl) (by kernel_rfl) (by kernel_rfl) (fun _ _ _ h => h) (yieldsIf_load_mid (by rfl) 68 (.tmp 5) (by rfl) X.heap.size 0 (by rfl) (XT) _ (fun w' h => hxrc.out w' h) Tryz.underlying68 rfl (by rw [hlx]; exact infoTh11)) hHd ?_
    try simp only [Act.put, List.setIfInBounds_toArray, List.set_cons_zero, List.set_cons_succ]
    refine wpAnyR_take (i := 1) (oi := { dst := some 20, op := Op.load 28 (Operand.tmp 1), type := 28, pos := "log.go:139", after := #[], guard := none }) (v := ?rv1_1) rfl (by kernel_rfl) (by kernel_rfl) (by kernel_rfl) (by kernel_rfl) (fun _ _ _ h => h) (Or.inl ⟨by rfl, ?ry1_1⟩) hHd ?rrest1_1
    case ry1_1 =>
      intro w hSw
      have c := hcpb.out w hSw
      go_simp
      try with_reducible rfl
    try simp only [Act.put, List.setIfInBounds_toArray, List.set_cons_zero, List.set_cons_succ]
    refine wpAnyR_take (i := 2) (oi := { dst := some 21, op := Op.nilCheck (Operand.tmp 20), type := 0, pos := "log.go:139", after := #[{ on := 1, ground := Ground.data }], guard := none }) (v := ?rv2_2) rfl (by kernel_rfl) (by kernel_rfl) (by kernel_rfl) (by kernel_rfl) (fun _ _ _ h => h) (Or.inl ⟨by rfl, ?ry2_2⟩) hHd ?rrest2_2
    case ry2_2 =>
      intro w hSw
      go_simp
      try with_reducible rfl
    try simp only [Act.put, List.setIfInBounds_toArray, List.set_cons_zero, List.set_cons_succ]
    refine wpAnyR_take (i := 3) (oi := { dst := some 22, op := Op.fieldAddr 71 (Operand.tmp 21) 0, type := 0, pos := "log.go:139", after := #[{ on := 2, ground := Ground.data }], guard := none }) (v := ?rv3_3) rfl (by kernel_rfl) (by kernel_rfl) (by kernel_rfl) (by kernel_rfl) (fun _ _ _ h => h) (Or.inl ⟨by rfl, ?ry3_3⟩) hHd ?rrest3_3
    case ry3_3 =>
      intro w hSw
      go_simp
      try with_reducible rfl
    try simp only [Act.put, List.setIfInBounds_toArray, List.set_cons_zero, List.set_cons_succ]
    refine wpAnyR_take (i := 5) (oi := { dst := some 24, op := Op.move (Operand.tmp 6), type := 3, pos := "log.go:139", after := #[], guard := none }) (v := ?rv5_4) rfl (by kernel_rfl) (by kernel_rfl) (by kernel_rfl) (by kernel_rfl) (fun _ _ _ h => h) (Or.inl ⟨by rfl, ?ry5_4⟩) hHd ?rrest5_4
    case ry5_4 =>
      intro w hSw
      go_simp
      try with_reducible rfl
    try simp only [Act.put, List.setIfInBounds_toArray, List.set_cons_zero, List.set_cons_succ]
    refine wpAnyR_take (i := 4) (oi := { dst := some 23, op := Op.load 26 (Operand.tmp 22), type := 26, pos := "log.go:139", after := #[{ on := 3, ground := Ground.data }], guard := none }) (v := .agg (cw).toArray) rfl (by kernel_rfl) (by kernel_rfl) (by kernel_rfl) (by kernel_rfl) (fun _ _ _ h => h) (yieldsIf_load_mid (by rfl) 26 (.tmp 22) (by rfl) lb 0 (by rfl) (cw) _ (fun w' h => hwdr.out w' h) Tryz.underlying26 rfl (by rw [hlw]; exact infoWo)) hHd ?_
    try simp only [Act.put, List.setIfInBounds_toArray, List.set_cons_zero, List.set_cons_succ]
    obtain ⟨wd, hwd⟩ : ∃ wd, wd = wc.drew := ⟨_, rfl⟩
    rw [← hwd] at hHd ⊢
    clear hwd hcpl
    refine wpAnyR_call (i := 6) (o := { dst := some 25, op := Op.call { callee := Callee.value (Operand.func 50), args := #[Operand.tmp 19, Operand.tmp 23, Operand.tmp 24], argTypes := #[68, 26, 3] }, type := 80, pos := "log.go:139", after := #[{ on := 0, ground := Ground.data }, { on := 4, ground := Ground.data }, { on := 5, ground := Ground.data }], guard := none }) (by kernel_rfl) rfl (fun c e => by cases e) (by rfl) (by simp [execOp, resolve, invoke, go_sem, eg50]) (hse.out wd) ?_
    rintro e w3 ⟨rfl, hq3⟩
    have hH3 := hHd.trans (hq3.out.b.mono hHd.size)
    refine ⟨_, rfl, hH3, ?_⟩
    try simp only [Act.put, List.setIfInBounds_toArray, List.set_cons_zero, List.set_cons_succ]
    refine wpAnyR_call (i := 7) (o := { dst := some 26, op := Op.call { callee := Callee.value (Operand.func 33), args := #[Operand.tmp 25], argTypes := #[80] }, type := 47, pos := "log.go:139", after := #[{ on := 6, ground := Ground.data }, { on := 6, ground := Ground.chain }], guard := none }) (by kernel_rfl) rfl (fun c e => by cases e) (by rfl) (by simp [execOp, resolve, invoke, go_sem, eg33]) (hcol.out wd w3 hHd hq3.out) ?_
    rintro e w4 ⟨la, lc, rfl, hq4⟩
    obtain ⟨L, hL1, hL2, hL3, hL4, hL5⟩ := hq4.out
    have hH4 := hH3.trans (hL3.mono hH3.size)
    refine ⟨_, rfl, hH4, ?_⟩
    try simp only [Act.put, List.setIfInBounds_toArray, List.set_cons_zero, List.set_cons_succ]
    refine wpAnyR_call (i := 8) (o := { dst := some 27, op := Op.call { callee := Callee.value (Operand.func 54), args := #[Operand.tmp 26], argTypes := #[47] }, type := 110, pos := "log.go:139", after := #[{ on := 7, ground := Ground.data }, { on := 7, ground := Ground.chain }], guard := none }) (by kernel_rfl) rfl (fun c e => by cases e) (by rfl) (by simp [execOp, resolve, invoke, go_sem, eg54]) (backE_any (a := la) (n := x.L.length - pS) (c := lc)) ?_
    rintro e w5 ⟨rfl, rfl⟩
    have hH5 := hH4.alloc hH4.size (.cells #[.slice la (x.L.length - pS) lc] 47)
    refine ⟨_, rfl, hH5, ?_⟩
    try simp only [Act.put, List.setIfInBounds_toArray, List.set_cons_zero, List.set_cons_succ]
    refine wpAnyR_done (by kernel_rfl) ?_ _
    have hb5 := hH4.alloc hH4.size (.cells #[.slice la (x.L.length - pS) lc] 47)
    have hb45 := (Below.refl _ w4).alloc (Nat.le_refl _) (.cells #[.slice la (x.L.length - pS) lc] 47)
    have hbb5 := Lib.hid (heap_alloc_new w4 (.cells #[.slice la (x.L.length - pS) lc] 47))
    have hs5 : (w4.alloc (.cells #[.slice la (x.L.length - pS) lc] 47)).heap.size = w4.heap.size + 1 := by simp
    have hlL : L.length = x.L.length - pS := by
      have := congrArg List.length hL1
      rwa [List.length_map, List.length_drop, told_length] at this
    have hLE := Lib.hid (hL2.below hb45)
    have hLlt : Hid (∀ k, EOwn (.slice la (x.L.length - pS) lc) L k → k < w4.heap.size ∧ Wb.heap.size ≤ k) := Lib.hid (fun k hk => ⟨hL2.lt k hk, by
      have h1 := hL4 k hk
      have h2 := hH3.size
      have h3 := hbcc.out.size
      omega⟩)
    have hBb5 := Lib.hid (hbcc.out.trans (hb5.mono hbcc.out.size))
    have hL1' := Lib.hid hL1
    have hL5' := Lib.hid hL5
    have hw34 := hH3.size
    have hw44 := hL3.size
    have hwcc := hbcc.out.size
    clear hL1 hL2 hL3 hL4 hL5 hq3 hq4 hb5 hb45 hHd hH3 hH4 hH5 hse hcol hxrc hcpb hwdr eg50 eg33 hxr hXb
    gi_wp2_with fail
    generalize hw5 : w4.alloc (.cells #[.slice la (x.L.length - pS) lc] 47) = w5 at *
    clear hw5
    rw [← hlL] at hLE hLlt hbb5
    have hgE := Lib.hid (backE1_gives hbb5.out hLE.out.1 (by have := hL x hSm; omega))
    obtain ⟨Zf, hZf0⟩ : ∃ Zf : Nat → Prop, Zf = fun q => (Zo q ∨ Zi q) ∨ q = w4.heap.size ∨ (Value.slice la L.length lc).ownBlock = some q := ⟨_, rfl⟩
    have hZf := Lib.hid hZf0
    clear hZf0
    have hs5' := Lib.hid hs5
    clear hs5
    have hZf5 : Hid (∀ q, Zf q ∨ HB b pb mb v sv ss q → q < w5.heap.size) := Lib.hid (fun q hq => by
      have h1 := hs5'.out
      rcases hq with e | e
      · rw [hZf.out] at e
        rcases e with e | e | e
        · have := (hZiB.out q e).1; omega
        · omega
        · have := (hLlt.out q (.inl e)).1; omega
      · have := hHlt.out q e
        have h2 := hkWb.out.size
        omega)
    have hLb : Hid (∀ y ∈ L, ∀ k, y.2.ownBlock = some k → k < w5.heap.size ∧ ¬ Zf k) := Lib.hid (fun y hy k hk => by
      have h0 := hLlt.out k (.inr ⟨y, hy, hk⟩)
      have h1 := hs5'.out
      refine ⟨by omega, fun e => ?_⟩
      rw [hZf.out] at e
      rcases e with e | e | e
      · have := (hZiB.out k e).1; omega
      · omega
      · obtain ⟨c1, h3⟩ := (hLE.out.2 y hy).2 k hk
        obtain ⟨c2, h4⟩ := RowAt.tag hLE.out.1 e
        rw [h3] at h4
        simp at h4)
    have hl05 := (hBb5.out.block l1 (Array.getElem?_eq_some_iff.1 hrl.out).1).trans hrl.out
    have hI2 : Hid (InI Zf (HB b pb mb v sv ss) w5 J (toldAll W (ss.drop (j + 1))).reverse L (fun _ => False) [] w5) := Lib.hid ⟨L.reverse, rfl, by
      rw [List.map_nil, List.append_nil]
      refine hJ'.out _ _ _ Wb w5 hJb.out (.of_below hBb5.out) (fun q hq => ?_)
      rcases hq with (e | ⟨y, hy, e⟩) | e
      · rw [hZf.out] at e
        rcases e with e | e | e
        · exact .inl e
        · exact .inr (by omega)
        · exact .inr (hLlt.out q (.inl e)).2
      · exact .inr (hLlt.out q (.inr ⟨y, List.mem_reverse.1 hy, e⟩)).2
      · exact e.elim, fun q e => e.elim, KeptOff.refl _ _, fun y hy => hLE.out.2 y (List.mem_reverse.1 hy)⟩
    have hHi : Hid (∀ k, (k = w4.heap.size ∨ (Value.slice la L.length lc).ownBlock = some k) → Zf k) := Lib.hid (fun k hk => by rw [hZf.out]; exact .inr hk)
    have hZiZf : Hid (∀ q, (Zo q ∨ Zi q) → Zf q) := Lib.hid (fun q hq => by rw [hZf.out]; exact .inl hq)
    have hTpj := Lib.hid (hTp.out j x hS hpr)
    have hTej := Lib.hid (fun h => hTe2.out j x hS h hpr)
    rw [hpS.out] at hTpj hTej
    have hS' := Lib.hid hS
    have hpe' := Lib.hid hpe
    -- behind the entries of this stretch
    have hbeh : Hid (∀ (Zq : Nat → Prop) (D : List En) (W3 : World), KeptOff (fun q => ¬ (Zf q ∨ HB b pb mb v sv ss q)) w5 W3 → KeptOff (fun k => ¬ Zi k ∧ ¬ (k = W0.heap.size + 1 ∨ (Value.slice sa ss.length sc).ownBlock = some k)) Wb W3) := Lib.hid (fun Zq D W3 hk => (KeptOff.of_below hBb5.out).trans (hk.mono (fun q _ e => ⟨fun h => e (.inl (hZiZf.out q (.inr h))), fun h => by
      rcases hHo.out q h with e2 | e2
      · exact e (.inl (hZiZf.out q (.inl e2)))
      · exact e (.inr e2)⟩)))
    clear hS hpe hrowb hSx hpbb hmbb hbW hyb hrl
    refine wpIn_rangeFunc_RN (l0 := l1) (r0 := rl1) (gf := 76) (lb := #[.pointer (some ⟨w4.heap.size, 0, none⟩)]) rfl (enters_of Tryz.func76 (by kernel_rfl) rfl) hl05 (H := fun k => k = w4.heap.size ∨ (Value.slice la L.length lc).ownBlock = some k) (Rd := RdL lb v W every sv len) (fun k hk => hZf5.out k (.inl (hHi.out k hk))) hgE.out.toR (fun G x vs X h => by obtain ⟨⟨i, rfl⟩, _⟩ := h; rfl)
      (InI Zf (HB b pb mb v sv ss) w5 J (toldAll W (ss.drop (j + 1))).reverse L) (InX Zf (HB b pb mb v sv ss) w5 K T) (InI.steps hJ'.out hZf5.out (fun y hy k hk => (hLb.out y hy k hk).1)) (fun c => InX.steps hK'.out hZf5.out c) (fun Z s X h => by obtain ⟨_, _, h1, _⟩ := h; exact hJR'.out _ _ _ h1) hI2.out ?round2 ?done2 ?stop2
    case round2 =>
      intro l2 Zj G2 pre2 y vs2 X2 hI hpre2 hpay2 hG2 hZlt2' hsz2b hvs2
      obtain ⟨rest, hre, hJ20, hZj, hK20, hrs⟩ := hI
      obtain ⟨⟨iy, rfl⟩, hGn2⟩ := hpay2
      obtain ⟨rest', rfl⟩ : ∃ rest', rest = y :: rest' := by
        obtain ⟨tt, ht⟩ := hpre2
        rw [hre, List.append_assoc, List.append_cancel_left_eq] at ht
        exact ⟨tt, ht.symm⟩
      have hJ2 := Lib.hid hJ20
      have hK2 := Lib.hid hK20
      have hrs' := Lib.hid hrs
      clear hJ20 hK20 hrs hgE hI2
      obtain ⟨⟨ya, yc, hyv, hyM0⟩, hyT0⟩ := hrs'.out y (List.mem_cons_self ..)
      have hyM := Lib.hid hyM0
      have hyT := Lib.hid hyT0
      have hyL : y ∈ L := List.mem_reverse.1 (by rw [hre]; exact List.mem_append_right _ (List.mem_cons_self ..))
      obtain ⟨ye, yv⟩ := y
      simp only at hyv hyM hyT
      subst hyv
      have hA := heap_alloc_new X2 (.cells z19 44)
      have hC := Lib.hid ((Below.refl _ X2).alloc (Nat.le_refl _) (.cells z19 44))
      simp only [z19] at hA hC
      have hE1 : Hid ((encE (ye, .slice ya ye.sent.length yc)).toArray.size = 19 ∧ (encE (ye, .slice ya ye.sent.length yc)).toArray.all (·.oneCell') = true ∧ (encE (ye, .slice ya ye.sent.length yc)).length = 19) := Lib.hid ⟨rfl, entC_one _ _ _ _ _ _, rfl⟩
      have hET : ∃ ET, encE (ye, .slice ya ye.sent.length yc) = ET := ⟨_, rfl⟩
      obtain ⟨ET, hET0⟩ := hET
      rw [hET0] at hE1 ⊢
      have hET := Lib.hid hET0
      clear hET0 hyM0 hyT0
      gi_wp2_with (first
        | (refine wpListIn_store_row rfl 44 (.tmp 8) (.tmp 29) rfl X2.heap.size ET.toArray rfl rfl 44 _ hA (by rw [hE1.out.1]; exact infoEn) (by rw [hE1.out.1]; rfl) hE1.out.2.1 ?_))
      have hXe2 := Lib.hid (setRow_heap (new := ET.toArray) hA)
      have hBa2 := Lib.hid (below_row hC.out (g := X2.heap.size) (Nat.le_refl _) ET.toArray)
      clear hA hC
      generalize (X2.alloc (Obj.cells _ 44)).setRow X2.heap.size ET.toArray = Wa2 at *
      refine ⟨.of_below hBa2.out, fun Wb2 hkb2 hsb2 => ?_⟩
      have hwX2 := hK2.out.size
      have hwa2 := hBa2.out.size
      have hxl2 := (Array.getElem?_eq_some_iff.1 hXe2.out).1
      have hkb20 : Hid (KeptOff (fun q => Zj q ∧ ¬ G2 q) X2 Wb2) := Lib.hid ((KeptOff.of_below hBa2.out).trans hkb2)
      have hXb2 := Lib.hid ((hkb2.block _ hxl2 (fun e => by have := hZlt2' _ e.1; omega)).trans hXe2.out)
      have hXr2 : Hid (Wb2.rangeAt X2.heap.size 0 ET) := Lib.hid (by have := range_block hXb2.out; simpa using this)
      have hK5 : Hid (KeptOff (fun q => ¬ (Zf q ∨ HB b pb mb v sv ss q)) w5 Wb2) := Lib.hid (hK2.out.trans (hkb20.out.mono (fun q _ e h => by have := hZj q e.1; have := hZf5.out q h; omega)))
      have cy : Wb2.cell? ⟨W0.heap.size, 0, none⟩ = some (.func (.yield l) #[] #[]) := by
        have h1 := (hkw2.out.block _ (Array.getElem?_eq_some_iff.1 hyb2.out).1 (fun e => e (.inl (by rw [hZo.out]; exact .inl rfl)))).trans hyb2.out
        have h2 := (hBb5.out.block _ (Array.getElem?_eq_some_iff.1 h1).1).trans h1
        exact row_cell ((hK5.out.block _ (Array.getElem?_eq_some_iff.1 h2).1 (fun e => e (.inl (hZiZf.out _ (.inl (by rw [hZo.out]; exact .inl rfl)))))).trans h2) 0 rfl
      obtain ⟨Zs, hZs0⟩ : ∃ Zs : Nat → Prop, Zs = fun q => (Zf q ∨ ∃ z ∈ (ye, Value.slice ya ye.sent.length yc) :: rest', z.2.ownBlock = some q) ∨ Zj q := ⟨_, rfl⟩
      have hZs := Lib.hid hZs0
      have hin : ∀ z ∈ (ye, Value.slice ya ye.sent.length yc) :: rest', z ∈ L := fun z hz => List.mem_reverse.1 (by rw [hre]; exact List.mem_append_right _ hz)
      have hoff : ∀ z ∈ (ye, Value.slice ya ye.sent.length yc) :: rest', ∀ k, z.2.ownBlock = some k → ¬ (Zj k ∧ ¬ G2 k) := fun z hz k hk e => by
        have h1 := (hLb.out z (hin z hz) k hk).1
        have h2 := hZj k e.1
        omega
      have hJs : J Zs ((toldAll W (ss.drop (j + 1))).reverse ++ pre2.map Prod.fst) Wb2 := by
        rw [hZs.out]
        exact hJ'.out _ _ _ X2 Wb2 hJ2.out (hkb20.out.mono (fun q _ e => .inr e.1)) (fun q e => .inl e)
      have hpfx : (toldAll W (ss.drop (j + 1))).reverse ++ pre2.map Prod.fst ++ [ye] <+: T := by
        obtain ⟨tt, ht⟩ := hpre2
        refine List.IsPrefix.trans ⟨tt.map Prod.fst, ?_⟩ hTpj.out
        rw [← hL1'.out, ← List.map_reverse, ← ht]
        simp [List.append_assoc]
      have hpw : PayE (fun q => (Value.slice ya ye.sent.length yc).ownBlock = some q) ye #[.agg ET.toArray] Wb2 := ⟨ya, yc, by rw [← hET.out]; rfl, hyM.out.keptOff hkb20.out (fun q e => hoff _ (List.mem_cons_self ..) q e), hyT.out.kept hkb20.out (fun q e => hoff _ (List.mem_cons_self ..) q e), fun q e => e⟩
      have hyy := hY'.out Zs (fun q => (Value.slice ya ye.sent.length yc).ownBlock = some q) _ ye #[.agg ET.toArray] Wb2 hJs hpfx hpw (fun q e => by rw [hZs.out]; exact .inl (.inr ⟨_, List.mem_cons_self .., e⟩)) (fun q e => by
        rw [hZs.out] at e
        have hwb := hkb20.out.size
        rcases e with (e | ⟨z, hz, e⟩) | e
        · have := hZf5.out q (.inl e); omega
        · have := (hLb.out z (hin z hz) q e).1; omega
        · have := hZlt2' q e; omega)
      have hyy' := Lib.hid hyy
      obtain ⟨R2, hR20⟩ : ∃ R2 : Exit → Act → World → Prop, ∀ e a3 W3, R2 e a3 W3 ↔ KeptOff (fun k => ¬ Zj k ∧ ¬ (k = w4.heap.size ∨ (Value.slice la L.length lc).ownBlock = some k)) Wb2 W3 ∧ LeftZ (InI Zf (HB b pb mb v sv ss) w5 J (toldAll W (ss.drop (j + 1))).reverse L) (InX Zf (HB b pb mb v sv ss) w5 K T) (fun k => Zj k ∧ ¬ G2 k) (pre2 ++ [(ye, Value.slice ya ye.sent.length yc)]) W3 e := ⟨_, fun _ _ _ => Iff.rfl⟩
      have hR2 := Lib.hid hR20
      clear hR20 hyy
      have hfinR : Hid (∀ (W6 : World) (bl : Bool), KeptOff (fun k => ¬ Zs k ∧ ¬ HB b pb mb v sv ss k) Wb2 W6 → (if bl = true then J (fun k => Zs k ∧ ¬ (Value.slice ya ye.sent.length yc).ownBlock = some k) ((toldAll W (ss.drop (j + 1))).reverse ++ pre2.map Prod.fst ++ [ye]) W6 else K (fun k => Zs k ∧ ¬ (Value.slice ya ye.sent.length yc).ownBlock = some k) ((toldAll W (ss.drop (j + 1))).reverse ++ pre2.map Prod.fst ++ [ye]) W6) →
          Hid ((bl = true → ∀ a3, R2 .normal a3 W6) ∧ (bl = false → ∀ a3, R2 .ret a3 W6))) := Lib.hid (fun W6 bl hk6 hif => by
        have hZfs : ∀ q, Zf q → Zs q := fun q e => by rw [hZs.out]; exact .inl (.inl e)
        have hZjs : ∀ q, Zj q → Zs q := fun q e => by rw [hZs.out]; exact .inr e
        have hkk : KeptOff (fun k => ¬ Zj k ∧ ¬ (k = w4.heap.size ∨ (Value.slice la L.length lc).ownBlock = some k)) Wb2 W6 := hk6.mono (fun q _ e => ⟨fun h => e.1 (hZjs q h), fun h => e.1 (hZfs q (hHi.out q h))⟩)
        have hk56 : KeptOff (fun q => ¬ (Zf q ∨ HB b pb mb v sv ss q)) w5 W6 := hK5.out.trans (hk6.mono (fun q _ e h => h.elim (fun h => e.1 (hZfs q h)) e.2))
        have hZnot : ∀ q, (Zf q ∨ Zj q) → ¬ (Value.slice ya ye.sent.length yc).ownBlock = some q := fun q e e2 => by
          have h1 := hLb.out _ hyL q e2
          rcases e with e | e
          · exact h1.2 e
          · have := hZj q e; omega
        refine ⟨fun e a3 => (hR2.out _ _ _).2 ⟨hkk, ?_⟩, fun e a3 => (hR2.out _ _ _).2 ⟨hkk, ?_⟩⟩
        · rw [if_pos e] at hif
          have hap : ∀ z ∈ rest', ∀ k, z.2.ownBlock = some k → ¬ (Value.slice ya ye.sent.length yc).ownBlock = some k := by
            have h1 : (L.reverse.map Prod.snd).Pairwise (fun a b => apartV b a) := by rw [List.map_reverse]; exact List.pairwise_reverse.2 hL5'.out
            rw [hre, List.map_append, List.pairwise_append] at h1
            have h2 := List.pairwise_cons.1 (show (Value.slice ya ye.sent.length yc :: rest'.map Prod.snd).Pairwise (fun a b => apartV b a) from h1.2.1)
            exact fun z hz k e1 e2 => h2.1 z.2 (List.mem_map_of_mem hz) k e1 e2
          refine ⟨rest', by rw [hre]; simp, ?_, fun q e => hZj q e.1, hk56, fun z hz => ?_⟩
          · have hmm : (toldAll W (ss.drop (j + 1))).reverse ++ (pre2 ++ [(ye, Value.slice ya ye.sent.length yc)]).map Prod.fst = (toldAll W (ss.drop (j + 1))).reverse ++ pre2.map Prod.fst ++ [ye] := by simp [List.append_assoc]
            rw [hmm]
            refine hJ'.out _ _ _ W6 W6 hif (KeptOff.refl _ _) (fun q hq => .inl ?_)
            rcases hq with (h | ⟨z, hz, h⟩) | h
            · exact ⟨hZfs q h, hZnot q (.inl h)⟩
            · exact ⟨by rw [hZs.out]; exact .inl (.inr ⟨z, List.mem_cons_of_mem _ hz, h⟩), hap z hz q h⟩
            · exact ⟨hZjs q h.1, hZnot q (.inr h.1)⟩
          · have h1 := hrs'.out z (List.mem_cons_of_mem _ hz)
            have h2 := fun k (e : z.2.ownBlock = some k) => hoff z (List.mem_cons_of_mem _ hz) k e
            have h3 : ∀ k, z.2.ownBlock = some k → ¬ (¬ Zs k ∧ ¬ HB b pb mb v sv ss k) := fun k e h => h.1 (by rw [hZs.out]; exact .inl (.inr ⟨z, List.mem_cons_of_mem _ hz, e⟩))
            exact ⟨(h1.1.kept hkb20.out h2).kept hk6 h3, (h1.2.kept hkb20.out h2).kept hk6 h3⟩
        · rw [e, if_neg (by simp)] at hif
          exact ⟨rfl, _, fun q h => ⟨hZjs q h.1, hZnot q (.inr h.1)⟩, fun q h => ⟨hZfs q h, hZnot q (.inl h)⟩, ⟨_, hpfx, hif⟩, fun q h => hZj q h.1, hk56⟩)
      clear hZs0 hJs hpw hin hoff hpfx hkb20 hXb2 hK5 hXe2 hBa2 hkb2 hwX2 hwa2 hxl2 hyM hyT hyL hre hZj hJ2 hK2 hrs' hG2 hGn2 hZlt2' hpre2 hsb2 hsz2b hvs2 hET
      refine wpIn_mono (Q := R2) ?_ (fun e a3 W3 h => (hR2.out e a3 W3).1 h)
      clear hR2
      simp only [Act.put]
      gi_wp2_with (first
        | (refine wpListIn_load_row rfl 44 (.tmp 8) rfl X2.heap.size 0 rfl ET _ hXr2.out Tryz.underlying44 rfl (by rw [hE1.out.2.2]; exact infoEn) ?_)
        | (refine wpListIn_yield rfl (.tmp 30) (.tmp 31) _ rfl rfl _ rfl hyy'.out ?_; rintro e w6 ⟨bl, rfl, hk6, hif⟩; refine ⟨_, rfl, ?_⟩; have hfin := hfinR.out w6 bl hk6 hif; clear hk6 hif cy hyy' hfinR))
      · exact hfin.out.2 (by simpa using ‹(!bl) = true›) _
      · exact hfin.out.1 (by simpa using ‹(!bl) = false›) _
    case done2 =>
      intro Zj W3 hI
      obtain ⟨rest, hre, hJ3, hZj, hK3, -⟩ := hI
      have hrest : rest = [] := by
        have := congrArg List.length hre
        simp at this
        exact this
      subst hrest
      have hmapL : L.reverse.map Prod.fst = ((told W x.kept x.L).drop pS).reverse := by rw [List.map_reverse, hL1'.out]
      rw [hmapL] at hJ3
      have hko := hbeh.out Zj [] W3 hK3
      rcases Nat.eq_zero_or_pos pS with hp00 | hp00
      · have hfin : Hid (∀ a3, R .normal a3 W3) := Lib.hid (fun a3 => (hR.out _ _ _).2 ⟨hko, j, by omega, by rw [hpe'.out, ← rev_snoc hS'.out], by have := hpS.out; omega, by
          rw [hp00, List.drop_zero, ← back_snoc hS'.out] at hJ3
          exact hJ'.out _ _ _ W3 W3 hJ3 (KeptOff.refl _ _) (fun q hq => .inl (.inl (.inl (hZiZf.out q (hq.imp id And.left))))), fun q e => hZi q e.1, (hkw2.out.trans (.of_below hBb5.out)).trans (hK3.mono (fun q _ e h => e (h.imp (fun h => hZiZf.out q (.inl h)) id)))⟩)
        subst hp00
        clear hko hJ3 hZj hK3 hgE hI2 hre hmapL
        gi_wp2
        exact hfin.out _
      · have hfin : Hid (∀ a3, R .ret a3 W3) := Lib.hid (fun a3 => (hR.out _ _ _).2 ⟨hko, rfl, fun q => (Zf q ∨ ∃ y ∈ ([] : List (En × Value)), y.2.ownBlock = some q) ∨ Zj q, fun q e => .inl (.inl (hZiZf.out q (.inr e.1))), .inl (by rw [hTej.out (by have := hpS.out; omega)]; exact hJ3)⟩)
        have hp01 : (0 : Int) < (pS : Int) := by omega
        clear hko hJ3 hZj hK3 hgE hI2 hre hmapL
        gi_wp2
        exact hfin.out _
    case stop2 =>
      intro cx Zj pre2 W3 hpre2 hI
      obtain ⟨rfl, Zk, h1, h2, h3, h4, h5⟩ := hI
      have hko := hbeh.out Zj [] W3 h5
      have hfin : Hid (∀ a3, R .ret a3 W3) := Lib.hid (fun a3 => (hR.out _ _ _).2 ⟨hko, rfl, Zk, fun q e => h2 q (hZiZf.out q (.inr e.1)), .inr h3⟩)
      clear hko h1 h2 h3 h4 h5 hgE hI2 hpre2
      gi_wp2
      exact hfin.out _
end Go.Proofs.YtminfmjgmmkaoaaGreatDoor
