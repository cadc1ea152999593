
/-
  The contract of the program's Sorted: over every slice of messages that can be read it answers a new slice that reads as the stable order of them, and nothing that was there is changed.
-/
import Derived.Test.YtcfpfbemmklbaaaEnc
import Derived.Test.YtcfpfbemmklbaaaSym
import Derived.Test.YtcfpfbemmklbaaaStable
import Derived.Test.YtcfpfbemmklbaaaPlaces
import Derived.Shelf.SlSortCmp.NoneTotal
import Derived.Shelf.SlicesE.Clone
namespace Go.Proofs.Ytcfpfbemmklbaaa
open Go.ChangeShapes Go.WideShapes Go.ChangeAt Go.Shelf Go.RowKit Go.Lib Go.Sort

theorem lay : Lay Try.prog 7 where
  mixed := by kernel_rfl
  fSwap := Try.func73
  fRot := Try.func71
  fSym := Try.func63
  fStable := Try.func54
  t0 := Try.underlying0
  a0 := Try.isAgg0
  z0 := Try.sizeOf0
  v0 := Try.zeroValue0
  t3 := Try.underlying3
  a3 := Try.isAgg3
  z3 := Try.sizeOf3
  v3 := Try.zeroValue3
  t4 := Try.underlying4
  a4 := Try.isAgg4
  z4 := Try.sizeOf4
  v4 := Try.zeroValue4
  t22 := Try.underlying38
  a22 := Try.isAgg38
  z22 := Try.sizeOf38
  v22 := Try.zeroValue38
  t25 := Try.underlying71
  a25 := Try.isAgg71
  z25 := Try.sizeOf71
  v25 := Try.zeroValue71
  t56 := Try.underlying96
  a56 := Try.isAgg96
  z56 := Try.sizeOf96
  v56 := Try.zeroValue96
  aE := Try.isAgg34
  zE := Try.sizeOf34

/-- The numbers of the library's insertion sort in this program. -/
def renI : Ren := ⟨fun n => if n = 20 then 62 else 0, fun n => if n = 0 then 0 else if n = 3 then 3 else if n = 4 then 4 else if n = 22 then 38 else if n = 24 then 34 else if n = 25 then 71 else n, fun n => n⟩
theorem laysI : SlLaysF0.n20 Try.prog renI where
  mixed := by kernel_rfl
  f20 := ⟨"slices.insertionSortCmpFunc[isochron/api.Message]", by decide, by kernel_rfl⟩
  t0 := Try.underlying0
  a0 := Try.isAgg0
  z0 := Try.sizeOf0
  v0 := Try.zeroValue0
  t3 := Try.underlying3
  a3 := Try.isAgg3
  z3 := Try.sizeOf3
  v3 := Try.zeroValue3
  t4 := Try.underlying4
  a4 := Try.isAgg4
  z4 := Try.sizeOf4
  v4 := Try.zeroValue4
  t22 := Try.underlying38
  a22 := Try.isAgg38
  z22 := Try.sizeOf38
  v22 := Try.zeroValue38
  t25 := Try.underlying71
  a25 := Try.isAgg71
  z25 := Try.sizeOf71
  v25 := Try.zeroValue71
/-- The numbers of the library's Clone in this program. -/
def renC : Ren := ⟨fun n => if n = 41 then 47 else 0, fun n => if n = 4 then 4 else if n = 22 then 38 else if n = 23 then 34 else n, fun n => n⟩
theorem laysC : SlLaysE0.n41 Try.prog renC where
  mixed := by kernel_rfl
  f41 := ⟨"slices.Clone[[]isochron/api.Message,isochron/api.Message]", by decide, by kernel_rfl⟩
  t4 := Try.underlying4
  a4 := Try.isAgg4
  z4 := Try.sizeOf4
  v4 := Try.zeroValue4
  t22 := Try.underlying38
  a22 := Try.isAgg38
  z22 := Try.sizeOf38
  v22 := Try.zeroValue38

/-- The comparison that Sorted hands to the library. -/
def cfM (a b : M) : Int := if ltM a b then -1 else if ltM b a then 1 else 0
theorem ltOf_cfM : ltOf cfM = ltM := by
  funext a b
  unfold ltOf cfM
  cases h : ltM a b <;> cases h' : ltM b a <;> rfl

theorem closure_any (a b : M) (w : World) : Calls Try.prog 31 #[a.val, b.val] w fun e w' => e = .returned (.int .i64 (cfM a b)) ∧ Read w w' := by
  have hcon := fun t f s to v u an t' f' s' to' v' u' an' w => eBefore_any ⟨⟨t, f, s⟩, to, v, u, an⟩ ⟨⟨t', f', s'⟩, to', v', u', an'⟩ w
  obtain ⟨hl, hr⟩ := MsgAt.two w a b
  have hrd := Read.two w (.cells a.cells 34) (.cells b.cells 34)
  cases h1 : ltM a b with
  | true =>
    have hc : cfM a b = -1 := by simp [cfM, h1]
    rw [hc]
    clear hc
    obtain ⟨⟨t, f, s⟩, to, v, u, an⟩ := a
    obtain ⟨⟨t', f', s'⟩, to', v', u', an'⟩ := b
    simp only [M.val, M.cells] at hcon hl hr hrd ⊢
    go_enter Try.func31, Try.ntmps31
    go_wp2_with (go_at_call 32; refine (hcon _ _ _ _ _ _ _ _ _ _ _ _ _ _ _).mono ?_; rintro e w1 ⟨rfl, hr1⟩)
    go_ret
    exact ⟨rfl, hrd.trans hr1⟩
  | false =>
    cases h2 : ltM b a with
    | true =>
      have hc : cfM a b = 1 := by simp [cfM, h1, h2]
      rw [hc]
      clear hc
      obtain ⟨⟨t, f, s⟩, to, v, u, an⟩ := a
      obtain ⟨⟨t', f', s'⟩, to', v', u', an'⟩ := b
      simp only [M.val, M.cells] at hcon hl hr hrd ⊢
      go_enter Try.func31, Try.ntmps31
      go_wp2_with (go_at_call 32; refine (hcon _ _ _ _ _ _ _ _ _ _ _ _ _ _ _).mono ?_; rintro e w1 ⟨rfl, hr1⟩; replace hl := hl.read hr1; replace hr := hr.read hr1; replace hrd := hrd.trans hr1; obtain ⟨_, l0, l1, l2, l3, l4, l5, l6⟩ := id hl; obtain ⟨_, r0, r1, r2, r3, r4, r5, r6⟩ := id hr; simp only [Nat.zero_add] at l0 l1 l2 l3 l4 l5 l6 r0 r1 r2 r3 r4 r5 r6)
      go_ret
      exact ⟨rfl, hrd⟩
    | false =>
      have hc : cfM a b = 0 := by simp [cfM, h1, h2]
      rw [hc]
      clear hc
      obtain ⟨⟨t, f, s⟩, to, v, u, an⟩ := a
      obtain ⟨⟨t', f', s'⟩, to', v', u', an'⟩ := b
      simp only [M.val, M.cells] at hcon hl hr hrd ⊢
      go_enter Try.func31, Try.ntmps31
      go_wp2_with (go_at_call 32; refine (hcon _ _ _ _ _ _ _ _ _ _ _ _ _ _ _).mono ?_; rintro e w1 ⟨rfl, hr1⟩; replace hl := hl.read hr1; replace hr := hr.read hr1; replace hrd := hrd.trans hr1; obtain ⟨_, l0, l1, l2, l3, l4, l5, l6⟩ := id hl; obtain ⟨_, r0, r1, r2, r3, r4, r5, r6⟩ := id hr; simp only [Nat.zero_add] at l0 l1 l2 l3 l4 l5 l6 r0 r1 r2 r3 r4 r5 r6)
      go_ret
      exact ⟨rfl, hrd⟩

theorem cmpLaysM (blk off size : Nat) (w : World) : CmpLays Try.prog 31 #[] encM 7 cfM blk off size w := fun _ _ _ _ x y => closure_any x y _
theorem enters1 : ∀ args w, (callFunc 31 args).run Try.prog w = .ok (.enter 31 args) w := enters_of Try.func31 (by kernel_rfl) rfl
theorem entersI : ∀ args w, (callFunc 62 args).run Try.prog w = .ok (.enter 62 args) w := enters_of Try.func62 (by kernel_rfl) rfl

theorem insC (w0 : World) (blk off cap N : Nat) (d0 : Array M) (R : RowK encM 7 w0 blk off d0) (hs : d0.size = N) (hsz : N < 1152921504606846976) : InsC Try.prog encM 7 w0 blk off cap N 31 #[] ltM := by
  intro Pp A S w az bz hN W ha hb
  subst ha hb
  have hd : (Pp ++ (A ++ S)).toArray.size = N := by rw [List.size_toArray, hN]
  have hl : Pp.length + (A.length + S.length) = N := by simpa using hN
  have := AnyQ.insertionSortCmpFunc_w laysI 7 Try.isAgg34 Try.sizeOf34 encM cfM 31 #[] blk off cap Pp.length (Pp.length + A.length) d0 (Pp ++ (A ++ S)).toArray w0 w enters1 (cmpLaysM _ _ _ _) R (hs.trans hd.symm) W (by rw [ltOf_cfM]; exact swoM) (by omega) (by omega) (by omega)
  rw [ltOf_cfM, ← List.append_assoc, insertionSort_lists ordM Pp A S _ _ rfl rfl, List.append_assoc, List.append_assoc, hd] at this
  exact this
theorem symC (w0 : World) (blk off cap N : Nat) (d0 : Array M) (R : RowK encM 7 w0 blk off d0) (hs : d0.size = N) (hsz : N < 1152921504606846976) : SymC Try.prog encM 7 w0 blk off cap N 31 #[] ltM := by
  intro Pp A B S w az mz bz hA hB oA oB hN W ha hm hb
  have := symMerge_lists lay encM cfM (by rw [ltOf_cfM]; exact ordM) 31 #[] blk off cap N d0 w0 enters1 (cmpLaysM _ _ _ _) R hs hsz (A.length + B.length) Pp A B S w (Nat.le_refl _) hA hB (by rw [ltOf_cfM]; exact oA) (by rw [ltOf_cfM]; exact oB) hN W az mz bz ha hm hb
  rw [ltOf_cfM] at this
  exact this

theorem stable_any (w : World) (blk off cap : Nat) (l : List M) (hH : HoldsK encM 7 w blk off l.toArray) (hblk : blk < w.heap.size) (hsz : l.length < 1152921504606846976) :
    Calls Try.prog 54 #[.slice (some ⟨blk, off, none⟩) l.length cap, .int .i64 l.length, .func (.func 31) #[] #[]] w fun e w' => e = .returned (.tuple #[]) ∧ SWK encM 7 w blk off (stab ltM l).toArray w' := by
  have R : RowK encM 7 w blk off l.toArray := ⟨encM_length, encM_one, hH, hblk⟩
  exact stable_lists lay encM ltM ordM 31 #[] blk off cap l.length w w l rfl hsz entersI (insC w blk off cap _ _ R (by simp) hsz) (symC w blk off cap _ _ R (by simp) hsz) (SWK.start hH)

theorem stable_none (p : Option Addr) (cap : Nat) (w : World) :
    Calls Try.prog 54 #[.slice p 0 cap, .int .i64 0, .func (.func 31) #[] #[]] w fun e w' => e = .returned (.tuple #[]) ∧ w' = w := by
  have hc := fun w => AnyF.insertionSortCmpFunc_none laysI p cap (.func (.func 31) #[] #[]) w
  change ∀ w, Calls Try.prog 62 _ _ _ at hc
  go_enter Try.func54, Try.ntmps54
  go_wp2
  refine wp_loop_rounds 1 ?_
  rw [rounds_succ]
  go_wp2_with (go_at_call 62; refine (hc _).mono ?_; rintro e w1 ⟨rfl, rfl⟩)
  refine wp_loop_rounds 1 ?_
  rw [rounds_succ]
  go_wp2
  go_end0
  exact ⟨rfl, rfl⟩

end Go.Proofs.Ytcfpfbemmklbaaa
