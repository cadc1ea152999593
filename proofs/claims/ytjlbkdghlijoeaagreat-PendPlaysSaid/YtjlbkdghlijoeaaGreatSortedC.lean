/-
  The contract of the program's Sorted: over every slice of messages that can be read it answers a new slice that reads as the stable order of them, and nothing that was there is changed.
  The contract of the program's Sorted: over every slice of messages that can be read it answers a new slice that reads as the stable order of them, and nothing that was there is changed.
-/
import Derived.Test.YtjlbkdghlijoeaaGreatLDG
import Derived.Test.YtjlbkdghlijoeaaGreatSym
import Derived.Test.YtjlbkdghlijoeaaGreatStable
import Derived.Test.YtjlbkdghlijoeaaGreatPlaces
import Derived.Shelf.SlSortCmp.NoneTotal
import Derived.Shelf.SlicesE.Clone
import Derived.OwnWalk
import Derived.Lib.OwnBridge
namespace Go.Proofs.YtjlbkdghlijoeaaGreat
open Go.ChangeShapes Go.WideShapes Go.ChangeAt Go.Shelf Go.RowKit Go.Lib Go.Sort

theorem lay : Lay Tryz.prog 7 where
  mixed := by kernel_rfl
  fSwap := Tryz.func155
  fRot := Tryz.func154
  fSym := Tryz.func152
  fStable := Tryz.func149
  t0 := Tryz.underlying0
  a0 := Tryz.isAgg0
  z0 := Tryz.sizeOf0
  v0 := Tryz.zeroValue0
  t3 := Tryz.underlying3
  a3 := Tryz.isAgg3
  z3 := Tryz.sizeOf3
  v3 := Tryz.zeroValue3
  t4 := Tryz.underlying4
  a4 := Tryz.isAgg4
  z4 := Tryz.sizeOf4
  v4 := Tryz.zeroValue4
  t22 := Tryz.underlying38
  a22 := Tryz.isAgg38
  z22 := Tryz.sizeOf38
  v22 := Tryz.zeroValue38
  t25 := Tryz.underlying180
  a25 := Tryz.isAgg180
  z25 := Tryz.sizeOf180
  v25 := Tryz.zeroValue180
  t56 := Tryz.underlying164
  a56 := Tryz.isAgg164
  z56 := Tryz.sizeOf164
  v56 := Tryz.zeroValue164
  aE := Tryz.isAgg34
  zE := Tryz.sizeOf34

/-- The numbers of the library's insertion sort in this program. -/
def renI : Ren := ⟨fun n => if n = 20 then 151 else 0, fun n => if n = 0 then 0 else if n = 3 then 3 else if n = 4 then 4 else if n = 22 then 38 else if n = 24 then 34 else if n = 25 then 180 else n, fun n => n⟩
theorem laysI : SlLaysF0.n20 Tryz.prog renI where
  mixed := by kernel_rfl
  f20 := ⟨"slices.insertionSortCmpFunc[isochron/api.Message]", by decide, by kernel_rfl⟩
  t0 := Tryz.underlying0
  a0 := Tryz.isAgg0
  z0 := Tryz.sizeOf0
  v0 := Tryz.zeroValue0
  t3 := Tryz.underlying3
  a3 := Tryz.isAgg3
  z3 := Tryz.sizeOf3
  v3 := Tryz.zeroValue3
  t4 := Tryz.underlying4
  a4 := Tryz.isAgg4
  z4 := Tryz.sizeOf4
  v4 := Tryz.zeroValue4
  t22 := Tryz.underlying38
  a22 := Tryz.isAgg38
  z22 := Tryz.sizeOf38
  v22 := Tryz.zeroValue38
  t25 := Tryz.underlying180
  a25 := Tryz.isAgg180
  z25 := Tryz.sizeOf180
  v25 := Tryz.zeroValue180
/-- The numbers of the library's Clone in this program. -/
def renC : Ren := ⟨fun n => if n = 41 then 79 else 0, fun n => if n = 4 then 4 else if n = 22 then 38 else if n = 23 then 34 else n, fun n => n⟩
theorem laysC : SlLaysE0.n41 Tryz.prog renC where
  mixed := by kernel_rfl
  f41 := ⟨"slices.Clone[[]isochron/api.Message,isochron/api.Message]", by decide, by kernel_rfl⟩
  t4 := Tryz.underlying4
  a4 := Tryz.isAgg4
  z4 := Tryz.sizeOf4
  v4 := Tryz.zeroValue4
  t22 := Tryz.underlying38
  a22 := Tryz.isAgg38
  z22 := Tryz.sizeOf38
  v22 := Tryz.zeroValue38

/-- The comparison that Sorted hands to the library. -/
def cfM (a b : M) : Int := if ltM a b then -1 else if ltM b a then 1 else 0
theorem ltOf_cfM : ltOf cfM = ltM := by
  funext a b
  unfold ltOf cfM
  cases h : ltM a b <;> cases h' : ltM b a <;> rfl

theorem closure_any (a b : M) (w : World) : Calls Tryz.prog 139 #[a.val, b.val] w fun e w' => e = .returned (.int .i64 (cfM a b)) ∧ Read w w' := by
  have hcon := fun t f s to v u an t' f' s' to' v' u' an' w => eBefore_any ⟨⟨t, f, s⟩, to, v, u, an⟩ ⟨⟨t', f', s'⟩, to', v', u', an'⟩ w
  obtain ⟨hl, hr⟩ := MsgAt.two w a b
  have hrd := Read.two w (.cells a.cells 34) (.cells b.cells 34)
  cases h1 : ltM a b with
  | true =>
    have hc : cfM a b = -1 := by simp [cfM, h1]
    rw [hc]
    clear hc
    obtain ⟨⟨t, f, s⟩, to, v, u, an⟩ := a
    obtain ⟨⟨t', f', s'⟩, to', v', u', an'⟩ := b
    simp only [M.val, M.cells] at hcon hl hr hrd ⊢
    go_enter Tryz.func139, Tryz.ntmps139
    go_wp2_with (go_at_call 34; refine (hcon _ _ _ _ _ _ _ _ _ _ _ _ _ _ _).mono ?_; rintro e w1 ⟨rfl, hr1⟩)
    go_ret
    exact ⟨rfl, hrd.trans hr1⟩
  | false =>
    cases h2 : ltM b a with
    | true =>
      have hc : cfM a b = 1 := by simp [cfM, h1, h2]
      rw [hc]
      clear hc
      obtain ⟨⟨t, f, s⟩, to, v, u, an⟩ := a
      obtain ⟨⟨t', f', s'⟩, to', v', u', an'⟩ := b
      simp only [M.val, M.cells] at hcon hl hr hrd ⊢
      go_enter Tryz.func139, Tryz.ntmps139
      go_wp2_with (go_at_call 34; refine (hcon _ _ _ _ _ _ _ _ _ _ _ _ _ _ _).mono ?_; rintro e w1 ⟨rfl, hr1⟩; replace hl := hl.read hr1; replace hr := hr.read hr1; replace hrd := hrd.trans hr1; obtain ⟨_, l0, l1, l2, l3, l4, l5, l6⟩ := id hl; obtain ⟨_, r0, r1, r2, r3, r4, r5, r6⟩ := id hr; simp only [Nat.zero_add] at l0 l1 l2 l3 l4 l5 l6 r0 r1 r2 r3 r4 r5 r6)
      go_ret
      exact ⟨rfl, hrd⟩
    | false =>
      have hc : cfM a b = 0 := by simp [cfM, h1, h2]
      rw [hc]
      clear hc
      obtain ⟨⟨t, f, s⟩, to, v, u, an⟩ := a
      obtain ⟨⟨t', f', s'⟩, to', v', u', an'⟩ := b
      simp only [M.val, M.cells] at hcon hl hr hrd ⊢
      go_enter Tryz.func139, Tryz.ntmps139
      go_wp2_with (go_at_call 34; refine (hcon _ _ _ _ _ _ _ _ _ _ _ _ _ _ _).mono ?_; rintro e w1 ⟨rfl, hr1⟩; replace hl := hl.read hr1; replace hr := hr.read hr1; replace hrd := hrd.trans hr1; obtain ⟨_, l0, l1, l2, l3, l4, l5, l6⟩ := id hl; obtain ⟨_, r0, r1, r2, r3, r4, r5, r6⟩ := id hr; simp only [Nat.zero_add] at l0 l1 l2 l3 l4 l5 l6 r0 r1 r2 r3 r4 r5 r6)
      go_ret
      exact ⟨rfl, hrd⟩

theorem cmpLaysM (blk off size : Nat) (w : World) : CmpLays Tryz.prog 139 #[] encM 7 cfM blk off size w := fun _ _ _ _ x y => closure_any x y _
theorem enters1 : ∀ args w, (callFunc 139 args).run Tryz.prog w = .ok (.enter 139 args) w := enters_of Tryz.func139 (by kernel_rfl) rfl
theorem entersI : ∀ args w, (callFunc 151 args).run Tryz.prog w = .ok (.enter 151 args) w := enters_of Tryz.func151 (by kernel_rfl) rfl

theorem insC (w0 : World) (blk off cap N : Nat) (d0 : Array M) (R : RowK encM 7 w0 blk off d0) (hs : d0.size = N) (hsz : N < 1152921504606846976) : InsC Tryz.prog encM 7 w0 blk off cap N 139 #[] ltM := by
  intro Pp A S w az bz hN W ha hb
  subst ha hb
  have hd : (Pp ++ (A ++ S)).toArray.size = N := by rw [List.size_toArray, hN]
  have hl : Pp.length + (A.length + S.length) = N := by simpa using hN
  have := AnyQ.insertionSortCmpFunc_w laysI 7 Tryz.isAgg34 Tryz.sizeOf34 encM cfM 139 #[] blk off cap Pp.length (Pp.length + A.length) d0 (Pp ++ (A ++ S)).toArray w0 w enters1 (cmpLaysM _ _ _ _) R (hs.trans hd.symm) W (by rw [ltOf_cfM]; exact swoM) (by omega) (by omega) (by omega)
  rw [ltOf_cfM, ← List.append_assoc, insertionSort_lists ordM Pp A S _ _ rfl rfl, List.append_assoc, List.append_assoc, hd] at this
  exact this
theorem symC (w0 : World) (blk off cap N : Nat) (d0 : Array M) (R : RowK encM 7 w0 blk off d0) (hs : d0.size = N) (hsz : N < 1152921504606846976) : SymC Tryz.prog encM 7 w0 blk off cap N 139 #[] ltM := by
  intro Pp A B S w az mz bz hA hB oA oB hN W ha hm hb
  have := symMerge_lists lay encM cfM (by rw [ltOf_cfM]; exact ordM) 139 #[] blk off cap N d0 w0 enters1 (cmpLaysM _ _ _ _) R hs hsz (A.length + B.length) Pp A B S w (Nat.le_refl _) hA hB (by rw [ltOf_cfM]; exact oA) (by rw [ltOf_cfM]; exact oB) hN W az mz bz ha hm hb
  rw [ltOf_cfM] at this
  exact this

theorem stable_any (w : World) (blk off cap : Nat) (l : List M) (hH : HoldsK encM 7 w blk off l.toArray) (hblk : blk < w.heap.size) (hsz : l.length < 1152921504606846976) :
    Calls Tryz.prog 149 #[.slice (some ⟨blk, off, none⟩) l.length cap, .int .i64 l.length, .func (.func 139) #[] #[]] w fun e w' => e = .returned (.tuple #[]) ∧ SWK encM 7 w blk off (stab ltM l).toArray w' := by
  have R : RowK encM 7 w blk off l.toArray := ⟨encM_length, encM_one, hH, hblk⟩
  exact stable_lists lay encM ltM ordM 139 #[] blk off cap l.length w w l rfl hsz entersI (insC w blk off cap _ _ R (by simp) hsz) (symC w blk off cap _ _ R (by simp) hsz) (SWK.start hH)

theorem stable_none (p : Option Addr) (cap : Nat) (w : World) :
    Calls Tryz.prog 149 #[.slice p 0 cap, .int .i64 0, .func (.func 139) #[] #[]] w fun e w' => e = .returned (.tuple #[]) ∧ w' = w := by
  have hc := fun w => AnyF.insertionSortCmpFunc_none laysI p cap (.func (.func 139) #[] #[]) w
  change ∀ w, Calls Tryz.prog 151 _ _ _ at hc
  go_enter Tryz.func149, Tryz.ntmps149
  go_wp2
  refine wp_loop_rounds 1 ?_
  rw [rounds_succ]
  go_wp2_with (go_at_call 151; refine (hc _).mono ?_; rintro e w1 ⟨rfl, rfl⟩)
  refine wp_loop_rounds 1 ?_
  rw [rounds_succ]
  go_wp2
  go_end0
  exact ⟨rfl, rfl⟩

end Go.Proofs.YtjlbkdghlijoeaaGreat
namespace Go.Proofs.YtjlbkdghlijoeaaGreat
open Go.ChangeShapes Go.WideShapes Go.ChangeAt Go.Shelf Go.RowKit Go.Lib Go.Sort

set_option maxHeartbeats 1000000 in
theorem clone_some (ad : Addr) (n c : Nat) (news : List Value) (w : World) (hl : news.length = n * 7) (hn : n ≤ maxLen) (hbig : n * 56 ≤ 140737488355328)
    (hc : ∀ j u, news[j]? = some u → w.cell? (ad.add j) = some u) (h1 : ∀ u ∈ news, u.oneCell' = true) :
    Calls Tryz.prog 79 #[.slice (some ad) n c] w fun e w' => ∃ v', e = .returned v' ∧ w'.ownsRow w.heap.size 34 7 v' n news ∧ Below w.heap.size w w' := by
  obtain ⟨i0, hi, hz0, hz1, hz2⟩ := info_parts infoM
  have q22 : ∀ (w : World) (a : Option Addr) (n c n' c' : Nat), (binOp .eql 38 (.slice a n c) (.slice none n' c')).run Tryz.prog w = .ok (.bool a.isNone) w := fun w a n c n' c' => Lib.run_eql_slice_nil w _ _ a n c n' c' Tryz.underlying38
  have A : Aside (∀ j u, news[j]? = some u → w.cell? (ad.add j) = some u) := hc
  clear hc
  go_enter Tryz.func79, Tryz.ntmps79
  go_wp2_with (at_builtin; refine wpList_append_own _ rfl _ _ 38 rfl w.heap.size 34 i0 _ 7 56 Tryz.underlying38 hi hz0 hz1 hz2 rfl (by omega) _ _ _ rfl (World.ownsRow_made w #[] 0 (Nat.le_refl _) (Nat.zero_le _) (by simp)) ad n c news rfl ?qc1 ?qc2 ?qc3 ?qc4 ?qc5 ?qc6 ?_)
  case qc1 => exact hl
  case qc2 =>
    intro j u hj
    exact Lib.cell?_alloc_some _ (A.out j u hj)
  case qc3 => exact h1
  case qc4 => rw [Nat.zero_add]; exact hn
  case qc5 => rw [Nat.zero_add]; exact hbig
  case qc6 => simp
  intro v' w1 hown hgrow hnil
  go_wp2
  go_ret
  refine ⟨v', rfl, by simpa using hown, ?_⟩
  exact ((Below.refl _ w).alloc (Nat.le_refl _) _).grown hgrow (by simp) (by intro k hk; simp [Value.ownBlock] at hk; omega)

theorem sort_any (w : World) (blk off cap : Nat) (l : List M) (hH : HoldsK encM 7 w blk off l.toArray) (hblk : blk < w.heap.size) (hsz : l.length < 1152921504606846976) :
    Calls Tryz.prog 144 #[.slice (some ⟨blk, off, none⟩) l.length cap, .func (.func 139) #[] #[]] w fun e w' => e = .returned (.tuple #[]) ∧ SWK encM 7 w blk off (stab ltM l).toArray w' := by
  have hc := stable_any w blk off cap l hH hblk hsz
  clear hH
  generalize stab ltM l = T at hc ⊢
  generalize l.length = N at hc ⊢
  go_enter Tryz.func144, Tryz.ntmps144
  go_wp2_with (go_at_call 149; refine hc.mono ?_; rintro e w1 ⟨rfl, S⟩)
  go_end0
  exact ⟨rfl, S⟩
theorem sort_none (p : Option Addr) (cap : Nat) (w : World) :
    Calls Tryz.prog 144 #[.slice p 0 cap, .func (.func 139) #[] #[]] w fun e w' => e = .returned (.tuple #[]) ∧ w' = w := by
  have hc := stable_none p cap w
  go_enter Tryz.func144, Tryz.ntmps144
  go_wp2_with (go_at_call 149; refine hc.mono ?_; rintro e w1 ⟨rfl, rfl⟩)
  go_end0
  exact ⟨rfl, rfl⟩
theorem clone_nil (n c : Nat) (w : World) : Calls Tryz.prog 79 #[.slice none n c] w fun e w' => e = .returned (.slice none 0 0) ∧ w' = w := by
  have := AnyE.slices_Clone_nil laysC n c w
  exact this

/-- What Clone leaves. -/
def CloneQ (w : World) (ms : List M) (len : Nat) (a' : Option Addr) (cap' : Nat) (w1 : World) : Prop :=
  Below w.heap.size w w1 ∧ len ≤ cap' ∧ cap' ≤ maxLen ∧ (len = 0 ∨ ∃ g, a' = some ⟨g, 0, none⟩ ∧ w.heap.size ≤ g ∧ g < w1.heap.size ∧ HoldsK encM 7 w1 g 0 ms.toArray)
theorem clone_any {w : World} {a : Option Addr} {len cap : Nat} {ms : List M} (h : Msgs w a len cap ms) (hr : len * 56 ≤ 140737488351232) :
    Calls Tryz.prog 79 #[.slice a len cap] w fun e w' => ∃ a' cap', e = .returned (.slice a' len cap') ∧ Aside (CloneQ w ms len a' cap' w') := by
  obtain ⟨hlen, hlc, hcm, hfit, hat⟩ := h
  cases a with
  | none =>
    obtain rfl : len = 0 := by
      rcases hat with h0 | ⟨b, off, ha, _⟩
      · exact h0
      · cases ha
    refine (clone_nil 0 cap w).mono ?_
    rintro e w' ⟨rfl, rfl⟩
    exact ⟨none, 0, rfl, Below.refl _ _, Nat.le_refl _, Nat.zero_le _, .inl rfl⟩
  | some ad =>
    have hc := clone_some ad len cap (flat ms) w (by rw [flat_length, hlen]) (by unfold maxLen at *; omega) (by omega) (by
      intro j u hj
      rcases hat with h0 | ⟨b, off, ha, hm⟩
      · have := (List.getElem?_eq_some_iff.1 hj).1
        rw [flat_length, hlen, h0] at this
        omega
      · injection ha with ha
        subst ha
        rw [add_plain]
        exact flat_cells (by rw [hlen]; exact hm) j u hj) (flat_one ms)
    refine hc.mono ?_
    rintro e w' ⟨v', rfl, hown, hb⟩
    rcases hown.2 with ⟨rfl, rfl⟩ | ⟨g, cap', cur, rfl, hg, hblk, hn, hm, _, ht⟩
    · exact ⟨none, 0, rfl, hb, Nat.le_refl _, Nat.zero_le _, .inl rfl⟩
    · refine ⟨some ⟨g, 0, none⟩, cap', rfl, hb, hn, hm, .inr ⟨g, rfl, hg, ?_, holds_of_block hblk hlen ht⟩⟩
      exact (Array.getElem?_eq_some_iff.1 hblk).1
theorem sort_q {w w1 : World} {a' : Option Addr} {len cap' : Nat} {ms : List M} (hlen : ms.length = len) (hfit : ∀ m ∈ ms, m.fits) (hr : len * 56 ≤ 140737488351232) (h : CloneQ w ms len a' cap' w1) :
    Calls Tryz.prog 144 #[.slice a' len cap', .func (.func 139) #[] #[]] w1 fun e w' => e = .returned (.tuple #[]) ∧ Aside (Msgs w' a' len cap' (stab ltM ms) ∧ Below w.heap.size w w') := by
  obtain ⟨hb, hlc, hcm, hat⟩ := h
  have hfit' : ∀ m ∈ stab ltM ms, m.fits := fun m hm => hfit m ((stab_perm ms).mem_iff.1 hm)
  have hlen' : (stab ltM ms).length = len := by rw [stab_length, hlen]
  by_cases h0 : len = 0
  · subst h0
    refine (sort_none a' cap' w1).mono ?_
    rintro e w' ⟨rfl, rfl⟩
    exact ⟨rfl, ⟨hlen', hlc, hcm, hfit', .inl rfl⟩, hb⟩
  · rcases hat with h | ⟨g, rfl, hg, hg1, hH⟩
    · exact absurd h h0
    · have := sort_any w1 g 0 cap' ms hH hg1 (by omega)
      rw [hlen] at this
      refine this.mono ?_
      rintro e w' ⟨rfl, W⟩
      have hH' : HoldsK encM 7 w' g 0 (stab ltM ms).toArray := SWK.holds W hg1 hH (by simp [stab_length])
      have hb' : Below w.heap.size w w' := SWK.belowM W hb hg hb.size
      have hsz : g < w'.heap.size := SWK.lt W hg1
      refine ⟨rfl, ⟨hlen', hlc, hcm, hfit', .inr ⟨g, 0, rfl, fun i hi => msgs_of_holds hH' hsz i (by omega)⟩⟩, hb'⟩

theorem sortedBy_any {w : World} {a : Option Addr} {len cap : Nat} {ms : List M} (h : Msgs w a len cap ms) (hr : len * 56 ≤ 140737488351232) :
    Calls Tryz.prog 138 #[.slice a len cap, .func (.func 139) #[] #[]] w fun e w' => ∃ a' cap', e = .returned (.slice a' len cap') ∧ Aside (Msgs w' a' len cap' (stab ltM ms) ∧ Below w.heap.size w w') := by
  have hc := clone_any h hr
  have hs := fun a' cap' w1 (hq : Aside (CloneQ w ms len a' cap' w1)) => sort_q h.1 h.2.2.2.1 hr hq.out
  clear h hr
  go_enter Tryz.func138, Tryz.ntmps138
  go_wp2_with (first | (go_at_call 79; refine hc.mono ?_; rintro e w1 ⟨a', cap', rfl, hq⟩) | (go_at_call 144; refine (hs _ _ _ (by assumption)).mono ?_; rintro e w2 ⟨rfl, hT⟩))
  go_ret
  exact ⟨a', cap', rfl, hT⟩

/-- THE PROGRAM's Sorted. -/
theorem eSorted_any {w : World} {a : Option Addr} {len cap : Nat} {ms : List M} (h : Msgs w a len cap ms) (hr : len * 56 ≤ 140737488351232) :
    Calls Tryz.prog 131 #[.slice a len cap] w fun e w' => ∃ a' cap', e = .returned (.slice a' len cap') ∧ Aside (Msgs w' a' len cap' (stab ltM ms) ∧ Below w.heap.size w w') := by
  have hc := sortedBy_any h hr
  clear h hr
  go_enter Tryz.func131, Tryz.ntmps131
  go_wp2_with (go_at_call 138; refine hc.mono ?_; rintro e w1 ⟨a', cap', rfl, hq⟩)
  go_ret
  exact ⟨a', cap', rfl, hq⟩

end Go.Proofs.YtjlbkdghlijoeaaGreat
