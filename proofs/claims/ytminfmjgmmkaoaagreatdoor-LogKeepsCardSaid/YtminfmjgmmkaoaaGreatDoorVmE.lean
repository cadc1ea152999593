/-
  Worlds, states, messages and instructions that can be read, as plain data; what the condition on the listed variables gives.
  What the laws of package vm share: a run's shape, the test that the program computes, two lists of sendings compared; and the law on checks.
  What any run keeps (a fault leaves the state; what is sent is late enough), in plain data; messages that a call has made itself.
-/
import Derived.Test.YtminfmjgmmkaoaaGreatDoorVmR2
import Derived.Test.YtminfmjgmmkaoaaGreatDoorCards
import Derived.Test.YtminfmjgmmkaoaaGreatDoorTie
import Derived.SizedLaws
import Derived.ShutString
import Derived.ChangeOld
import Derived.Deep.Slices
import Derived.Deep.Fields
import Derived.ChangeSame
import Derived.LaidMore
import Derived.LaidHandle
import Derived.Stop.LaidErr
import Derived.Stop.Joined
import Derived.Lib.LaidTab
import Derived.SevenTiedAt
import Derived.OpenShut
import Derived.Test.YtminfmjgmmkaoaaGreatDoorVmF
namespace Go.Proofs.YtminfmjgmmkaoaaGreatDoor
open Go.ChangeShapes Go.WideShapes Go.ChangeAt Go.RowKit Go.Sort Go.Deep
set_option linter.unusedVariables false
set_option maxRecDepth 100000

theorem cellsN : Tryz.prog.cellsOf 3 = 1 := by kernel_rfl
theorem cellsL : Tryz.prog.cellsOf 2 = 1 := by kernel_rfl
theorem cellsBo : Tryz.prog.cellsOf 4 = 1 := by kernel_rfl
theorem cellsU64 : Tryz.prog.cellsOf 24 = 1 := by kernel_rfl
theorem cellsI : Tryz.prog.cellsOf 62 = 4 := by kernel_rfl
theorem cellsLk : Tryz.prog.cellsOf 65 = 4 := by kernel_rfl
theorem cellsW : Tryz.prog.cellsOf 26 = 4 := by kernel_rfl
theorem cellsSl : Tryz.prog.cellsOf 22 = 1 := by kernel_rfl
theorem cellsSk : Tryz.prog.cellsOf 23 = 1 := by kernel_rfl
theorem own : ownKnob Tryz.prog.godebug = none := by kernel_rfl
theorem laidOut : laidOutB Tryz.prog = true := by kernel_rfl
theorem wf_u64 {n : Int} (h : (Lit.int .u64 n).wf = true) : 0 ≤ n ∧ n < 18446744073709551616 := by
  simp [Lit.wf, IntKind.min, IntKind.max, IntKind.signed, IntKind.bits] at h
  omega

section
variable {H : Type} {enc : TypeId × Value → H} {w : World} {base : Nat} {spare : Nat → Bool} {held : Bool}

set_option maxRecDepth 100000 in
theorem openI {fuel : Nat} {cs : List Value} {x : DataW H × List MemPlace} (h : DataW.trod enc Tryz.prog w base spare held fuel 62 cs = some x) :
    ∃ i : I, cs = i.cells.toList ∧ i.fits := by
  obtain ⟨xs, n, _, _, hlen, hxl, hg⟩ := DataW.trod_struct Tryz.underlying62 h
  have hc : cs.length = 4 := hlen.trans cellsI
  match cs, hc with
  | [c0, c1, c2, c3], _ =>
    match xs, hxl with
    | [y0, y1, y2, y3], _ =>
      have g0 := hg 0 _ rfl
      have g1 := hg 1 _ rfl
      have g2 := hg 2 _ rfl
      have g3 := hg 3 _ rfl
      simp [cellsN] at g0 g1 g2 g3
      obtain ⟨n0, h0, _, w0⟩ := DataW.trod_int Tryz.underlying3 g0
      obtain ⟨n1, h1, _, w1⟩ := DataW.trod_int Tryz.underlying3 g1
      obtain ⟨n2, h2, _, w2⟩ := DataW.trod_int Tryz.underlying3 g2
      obtain ⟨n3, h3, _, w3⟩ := DataW.trod_int Tryz.underlying3 g3
      simp only [List.cons.injEq, and_true] at h0 h1 h2 h3
      subst h0 h1 h2 h3
      exact ⟨⟨n0, n1, n2, n3⟩, rfl, w0, w1, w2, w3⟩
theorem openLk {fuel : Nat} {cs : List Value} {x : DataW H × List MemPlace} (h : DataW.trod enc Tryz.prog w base spare held fuel 65 cs = some x) :
    ∃ l : Lk, cs = l.cells.toList := by
  obtain ⟨xs, n, _, _, hlen, hxl, hg⟩ := DataW.trod_struct Tryz.underlying65 h
  have hc : cs.length = 4 := hlen.trans cellsLk
  match cs, hc with
  | [c0, c1, c2, c3], _ =>
    match xs, hxl with
    | [y0, y1, y2, y3], _ =>
      have g0 := hg 0 _ rfl
      have g1 := hg 1 _ rfl
      have g2 := hg 2 _ rfl
      have g3 := hg 3 _ rfl
      simp [cellsN, cellsL, cellsBo] at g0 g1 g2 g3
      obtain ⟨n0, h0, _, w0⟩ := DataW.trod_int Tryz.underlying3 g0
      obtain ⟨n1, h1, _, w1⟩ := DataW.trod_int Tryz.underlying3 g1
      obtain ⟨n2, h2, _, w2⟩ := DataW.trod_int Tryz.underlying2 g2
      obtain ⟨b3, h3, _⟩ := DataW.trod_bool Tryz.underlying4 g3
      simp only [List.cons.injEq, and_true] at h0 h1 h2 h3
      subst h0 h1 h2 h3
      exact ⟨⟨n0, n1, n2, b3⟩, rfl⟩
theorem openIs {fuel : Nat} {a : Option Addr} {len cap : Nat} {x : DataW H × List MemPlace} (h : DataW.trod enc Tryz.prog w base spare held fuel 22 [.slice a len cap] = some x) (hlt : ∀ y ∈ x.2, y.block < w.heap.size) :
    ∃ is : List I, Inss w a len cap is := by
  rcases open_slice Tryz.underlying22 h with ⟨hcs, _⟩ | ⟨y, l, c, m, n, D, Pl, hcs, _, hl, hm, hmm, hx, hi⟩
  · simp at hcs
    obtain ⟨rfl, rfl, rfl⟩ := hcs
    exact ⟨[], rfl, by omega, by unfold maxLen; omega, by simp, .inl rfl⟩
  · simp at hcs
    obtain ⟨rfl, rfl, rfl⟩ := hcs
    have hml : len ≤ m := by rw [hmm]; split <;> omega
    have hM : ∀ i, i < len → ∃ mm : I, mm.fits ∧ ∀ j, j < 4 → w.cell? ((y.add (i * 4)).add j) = mm.cells.toList[j]? := by
      intro i hilt
      obtain ⟨cs', hc, ht⟩ := hi i (by omega)
      rw [cellsI] at hc
      obtain ⟨mm, rfl, wm⟩ := openI ht
      obtain ⟨_, _, hat⟩ := World.cells?_some hc
      exact ⟨mm, wm, hat⟩
    refine ⟨(List.range len).map fun i => if hilt : i < len then (hM i hilt).choose else default, by simp, hl, hm, ?_, ?_⟩
    · intro mm hmem
      simp only [List.mem_map, List.mem_range] at hmem
      obtain ⟨i, hilt, rfl⟩ := hmem
      rw [dif_pos hilt]
      exact (hM i hilt).choose_spec.1
    · by_cases h0 : len = 0
      · exact .inl h0
      · obtain ⟨b, off, spot⟩ := y
        have hspot : spot = none := by
          have := (hM 0 (by omega)).choose_spec.2 0 (by omega)
          simp [I.cells] at this
          simpa [Addr.add] using World.cell?_spot this
        subst hspot
        have hbW : b < w.heap.size := by
          refine hlt (.cell b off) ?_
          rw [hx, cellsI]
          exact List.mem_append_left _ (MemPlace.mem_row.2 ⟨0, by omega, by simp⟩)
        refine .inr ⟨b, off, rfl, fun i hilt => ?_⟩
        have hc := (hM i hilt).choose_spec.2
        have hg : ((List.range len).map fun i => if hilt : i < len then (hM i hilt).choose else default).getD i default = (hM i hilt).choose := by
          simp [List.getD_eq_getElem?_getD, hilt]
        rw [hg]
        generalize (hM i hilt).choose = mm at hc
        simp only [add_plain] at hc
        exact ⟨hbW, hc 0 (by omega), hc 1 (by omega), hc 2 (by omega), hc 3 (by omega)⟩
theorem openLs {fuel : Nat} {a : Option Addr} {len cap : Nat} {x : DataW H × List MemPlace} (h : DataW.trod enc Tryz.prog w base spare held fuel 23 [.slice a len cap] = some x) (hlt : ∀ y ∈ x.2, y.block < w.heap.size) :
    ∃ ls : List Lk, Lks w a len cap ls := by
  rcases open_slice Tryz.underlying23 h with ⟨hcs, _⟩ | ⟨y, l, c, m, n, D, Pl, hcs, _, hl, hm, hmm, hx, hi⟩
  · simp at hcs
    obtain ⟨rfl, rfl, rfl⟩ := hcs
    exact ⟨[], rfl, by omega, by unfold maxLen; omega, .inl rfl⟩
  · simp at hcs
    obtain ⟨rfl, rfl, rfl⟩ := hcs
    have hml : len ≤ m := by rw [hmm]; split <;> omega
    have hM : ∀ i, i < len → ∃ mm : Lk, ∀ j, j < 4 → w.cell? ((y.add (i * 4)).add j) = mm.cells.toList[j]? := by
      intro i hilt
      obtain ⟨cs', hc, ht⟩ := hi i (by omega)
      rw [cellsLk] at hc
      obtain ⟨mm, rfl⟩ := openLk ht
      obtain ⟨_, _, hat⟩ := World.cells?_some hc
      exact ⟨mm, hat⟩
    refine ⟨(List.range len).map fun i => if hilt : i < len then (hM i hilt).choose else default, by simp, hl, hm, ?_⟩
    by_cases h0 : len = 0
    · exact .inl h0
    · obtain ⟨b, off, spot⟩ := y
      have hspot : spot = none := by
        have := (hM 0 (by omega)).choose_spec 0 (by omega)
        simp [Lk.cells] at this
        simpa [Addr.add] using World.cell?_spot this
      subst hspot
      have hbW : b < w.heap.size := by
        refine hlt (.cell b off) ?_
        rw [hx, cellsLk]
        exact List.mem_append_left _ (MemPlace.mem_row.2 ⟨0, by omega, by simp⟩)
      refine .inr ⟨b, off, rfl, fun i hilt => ?_⟩
      have hc := (hM i hilt).choose_spec
      have hg : ((List.range len).map fun i => if hilt : i < len then (hM i hilt).choose else default).getD i default = (hM i hilt).choose := by
        simp [List.getD_eq_getElem?_getD, hilt]
      rw [hg]
      generalize (hM i hilt).choose = mm at hc
      simp only [add_plain] at hc
      exact ⟨hbW, hc 0 (by omega), hc 1 (by omega), hc 2 (by omega), hc 3 (by omega)⟩
theorem trod_sl {t e : TypeId} (ht : Tryz.prog.underlying t = some (.slice e)) {fuel : Nat} {c : Value} {x : DataW H × List MemPlace} (h : DataW.trod enc Tryz.prog w base spare held fuel t [c] = some x) : ∃ a len cap, c = .slice a len cap := by
  rcases open_slice ht h with ⟨hcs, _⟩ | ⟨y, l, c', m, n, D, Pl, hcs, _⟩
  · simp at hcs
    exact ⟨_, _, _, hcs⟩
  · simp at hcs
    exact ⟨_, _, _, hcs⟩
theorem openW {fuel : Nat} {cs : List Value} {x : DataW H × List MemPlace} (h : DataW.trod enc Tryz.prog w base spare held fuel 26 cs = some x) (hlt : ∀ y ∈ x.2, y.block < w.heap.size) :
    ∃ (v : Wv) (W : Wd), cs = [.slice v.pa v.pl v.pc, .int .i64 W.self, .slice v.la v.ll v.lc, .int .u64 W.seed] ∧ Wds w v W := by
  obtain ⟨xs, n, _, hx, hlen, hxl, hg⟩ := DataW.trod_struct Tryz.underlying26 h
  have hc : cs.length = 4 := hlen.trans cellsW
  match cs, hc with
  | [c0, c1, c2, c3], _ =>
    match xs, hxl with
    | [y0, y1, y2, y3], _ =>
      have g0 := hg 0 _ rfl
      have g1 := hg 1 _ rfl
      have g2 := hg 2 _ rfl
      have g3 := hg 3 _ rfl
      simp [cellsSl, cellsSk, cellsN, cellsU64] at g0 g1 g2 g3
      obtain ⟨pa, pl, pc, rfl⟩ := trod_sl Tryz.underlying22 g0
      obtain ⟨n1, h1, _, w1⟩ := DataW.trod_int Tryz.underlying3 g1
      obtain ⟨la, ll, lc, rfl⟩ := trod_sl Tryz.underlying23 g2
      obtain ⟨n3, h3, _, w3⟩ := DataW.trod_int Tryz.underlying24 g3
      simp only [List.cons.injEq, and_true] at h1 h3
      subst h1 h3
      have hx2 : x.2 = y0.2 ++ (y1.2 ++ (y2.2 ++ (y3.2 ++ []))) := by rw [hx]; simp
      obtain ⟨is, hI⟩ := openIs g0 (fun y hy => hlt y (by rw [hx2]; simp [hy]))
      obtain ⟨ls, hL⟩ := openLs g2 (fun y hy => hlt y (by rw [hx2]; simp [hy]))
      have w3' := wf_u64 w3
      obtain ⟨sd, rfl⟩ := Int.eq_ofNat_of_zero_le w3'.1
      exact ⟨⟨pa, pl, pc, la, ll, lc⟩, ⟨is, n1, ls, sd⟩, rfl, hI, hL, by simp only; omega, w1⟩
theorem openWarg {r : Reach} {b0 : Nat} {v : Value} {d : DataW H} {p : List MemPlace} (hv : Value.okWide Tryz.prog w r b0 26 v) (h : DataW.Trod enc Tryz.prog w base spare held 26 v d p) (hlt : ∀ y ∈ p, y.block < w.heap.size) : ∃ (u : Wv) (W : Wd), v = u.val W ∧ Wds w u W := by
  obtain ⟨cs, rfl, _⟩ := okWide_struct Tryz.underlying26 hv
  obtain ⟨fuel, hf⟩ := h
  obtain ⟨u, W, hm, hW⟩ := openW hf hlt
  refine ⟨u, W, ?_, hW⟩
  obtain ⟨l⟩ := cs
  simp [Value.cells] at hm
  rw [hm]
  rfl
end
/-! What the condition on the listed variables gives. -/
theorem gErrNamed : Tryz.prog.globalNamed "isochron/code.errCannotBe" = some 0 := by kernel_rfl
theorem gTypNamed : Tryz.prog.globalNamed "errors.errorType" = some 1 := by kernel_rfl
theorem tErrV : (Tryz.prog.globals[0]?).map (·.type) = some 88 := by kernel_rfl
theorem rtypeT : (Tryz.prog.cutTypes.find? (·.1 == "internal/reflectlite.rtype")).map (·.2) = some 139 := by kernel_rfl
theorem nTypes : Tryz.prog.types.size = 237 := by kernel_rfl
theorem oneRow : ((List.range 237).filter fun t => Tryz.prog.rowNamed t [101, 114, 114, 111, 114]) = [88] := by kernel_rfl
theorem starE : "*" ++ "errors.errorString" = "*errors.errorString" := by decide
theorem rowE (u : TypeId) (h : Tryz.prog.typeName? 3 u = some "*errors.errorString") : u = 204 :=
  typeName_ptr_named (nm := "errors.errorString") (by rw [starE]; kernel_rfl) (by kernel_rfl) (by decide) u (by rw [starE]; exact h)
theorem cellsES : Tryz.prog.cellsOf 225 = 1 := by kernel_rfl
theorem cellsS : Tryz.prog.cellsOf 9 = 1 := by kernel_rfl
abbrev laid5 : List (String × DataW Unit) := Rows.logAgainRow.laid
theorem of_laid5 {W : World} (h : laidMetH Tryz.prog laid5 W) : ErrT W ∧ ∃ eb, ErrIs W eb := by
  have h' : laidMet Tryz.prog [("isochron/code.errCannotBe", Rows.laid_isochron_code_errCannotBe)] W ∧ handlesMet Tryz.prog [("errors.errorType", Rows.laid_errors_errorType)] W := h
  obtain ⟨h1, h2⟩ := h'
  constructor
  · obtain ⟨name, u, ty, e1, e2, e3, e4, e5⟩ := h2 _ (List.mem_singleton.2 rfl)
    have en : name = [101, 114, 114, 111, 114] := (Option.some.inj e1).symm
    subst en
    obtain rfl := Option.some.inj (rtypeT.symm.trans e2)
    have hm : ty ∈ (List.range 237).filter fun t => Tryz.prog.rowNamed t [101, 114, 114, 111, 114] := List.mem_filter.2 ⟨List.mem_range.2 (by rw [← nTypes]; exact e3), e4⟩
    rw [oneRow] at hm
    obtain rfl := List.mem_singleton.1 hm
    have hh : typeHandle Tryz.prog 88 = .pointer (some ⟨2, 88, none⟩) := by kernel_rfl
    rw [hh] at e5
    have hc : W.cell? ⟨1, 0, none⟩ = some (.iface 139 (.agg #[.pointer (some ⟨2, 88, none⟩)])) := by simpa using World.var?_cell gTypNamed e5 0
    exact ⟨World.block_lt_of_cell? W _ hc, hc⟩
  · obtain ⟨eb, s, hv, _⟩ := laid_sentinel h1 gErrNamed tErrV Tryz.underlying88 rowE Tryz.underlying204 Tryz.underlying225 rfl rfl Tryz.underlying9 cellsES cellsS
    have hc : W.cell? ⟨0, 0, none⟩ = some (.iface 204 (.pointer (some eb))) := by simpa using World.var?_cell gErrNamed hv 0
    exact ⟨eb, World.block_lt_of_cell? W _ hc, hc⟩
theorem door5 (os : Os) (args : Array Value) : laidMetH Tryz.prog laid5 ((World.doorLaid Tryz.prog 35 os).forCall (fun _ _ => 0) ⟨#[], args, []⟩).memory :=
  laidMetH_of_parts3 (fuel := 8) (laidMet_of_run' 8 (by kernel_rfl) (by kernel_rfl)) (by kernel_rfl) (by kernel_rfl)
end Go.Proofs.YtminfmjgmmkaoaaGreatDoor
namespace Go.Proofs.YtminfmjgmmkaoaaGreatDoor
open Go.ChangeShapes Go.WideShapes Go.ChangeAt Go.RowKit Go.Sort
set_option linter.unusedVariables false
set_option maxRecDepth 4000

def resLen (n : Nat) : Res → Prop
  | .on m => m.r.length = n
  | .stop m => m.r.length = n
  | .fault _ => True
theorem stepP_len {W : Wd} {ev : M} {i : I} {m : Mc} {n : Nat} (h : m.r.length = n) : resLen n (stepP W ev i m) := by
  unfold stepP sendP
  repeat' split
  all_goals first | exact h | exact trivial | (simp only [resLen, Mc.put, List.length_set]; exact h)
theorem runP_len {W : Wd} {ev : M} {n : Nat} : ∀ (f : Nat) (m : Mc), m.r.length = n → resLen n (runP W ev f m)
  | 0, m, h => h
  | f + 1, m, h => by
    unfold runP
    split
    · have hs := stepP_len (W := W) (ev := ev) (i := W.prog.getD m.pc.toNat default) (m := { m with pc := m.pc + 1 }) (n := n) h
      cases hr : stepP W ev (W.prog.getD m.pc.toNat default) { m with pc := m.pc + 1 } with
      | on m' => rw [hr] at hs; exact runP_len f m' hs
      | stop m' => rw [hr] at hs; exact hs
      | fault e => exact trivial
    · exact h
theorem runW_len {W : Wd} {s : Sta} {ev : M} (hs : s.r.length = 8) : (runW W s ev).1.r.length = 8 := by
  unfold runW
  split
  · rfl
  · split
    · rfl
    · have := runP_len (W := W) (ev := ev) 4096 (firstP s) (n := 16) (by simp [firstP, hs])
      cases hr : runP W ev 4096 (firstP s) with
      | fault e => exact hs
      | on m => rw [hr] at this; simp only [resLen] at this; simp [endP, this]
      | stop m => rw [hr] at this; simp only [resLen] at this; simp [endP, this]
theorem zero_in : ∀ z ∈ Sta.zero.r, In64 z := by
  intro z hz
  simp [Sta.zero] at hz
  subst hz
  unfold In64
  omega
end Go.Proofs.YtminfmjgmmkaoaaGreatDoor
namespace Go.Proofs.YtminfmjgmmkaoaaGreatDoor
open Go.ChangeShapes Go.WideShapes Go.ChangeAt Go.RowKit Go.Sort
set_option linter.unusedVariables false
set_option maxRecDepth 8000

/-- A sending that is late enough, on a link that there is. -/
def okOt (W : Wd) (t : Int) (x : Ot) : Prop := 0 ≤ x.link ∧ x.link < (W.links.length : Int) ∧ (W.links.getD x.link.toNat default).look ≤ x.delay ∧ x.delay ≤ 4611686018427387903 - t
def Late (W : Wd) (t : Int) (o : List Ot) : Prop := (∀ x ∈ o, okOt W t x) ∧ o.length ≤ 8
def resLate (W : Wd) (t d e : Int) : Res → Prop
  | .on m => Late W t m.o ∧ d ≤ m.d ∧ m.d ≤ e
  | .stop m => Late W t m.o ∧ d ≤ m.d ∧ m.d ≤ e
  | .fault k => k = 50 ∨ k = 10
theorem step_late {W : Wd} {ev : M} {i : I} {m : Mc} (h : Late W ev.k.t m.o) : resLate W ev.k.t m.d (m.d + 1) (stepP W ev i m) := by
  unfold stepP sendP
  repeat' split
  all_goals first
    | exact ⟨h, Int.le_refl _, by show m.d ≤ m.d + 1; omega⟩
    | exact ⟨h, by show m.d ≤ m.d + 1; omega, Int.le_refl _⟩
    | exact .inl rfl
    | exact .inr rfl
    | skip
  rename_i h0 h1 h2
  have hl : 0 < W.links.length := by omega
  refine ⟨⟨fun x hx => ?_, by simp only [List.length_append, List.length_singleton]; omega⟩, Int.le_refl _, by show m.d ≤ m.d + 1; omega⟩
  rcases List.mem_append.1 hx with hx | hx
  · exact h.1 x hx
  · simp only [List.mem_singleton] at hx
    subst hx
    exact ⟨Int.emod_nonneg _ (by omega), Int.emod_lt_of_pos _ (by omega), by simp only; omega, by simp only; omega⟩
theorem run_late {W : Wd} {ev : M} (f : Nat) : ∀ (m : Mc), Late W ev.k.t m.o → resLate W ev.k.t m.d (m.d + f) (runP W ev f m) := by
  induction f with
  | zero => exact fun m h => ⟨h, Int.le_refl _, by simp⟩
  | succ f ih =>
    intro m h
    unfold runP
    split
    · have hs := step_late (W := W) (ev := ev) (i := W.prog.getD m.pc.toNat default) (m := { m with pc := m.pc + 1 }) h
      cases hr : stepP W ev (W.prog.getD m.pc.toNat default) { m with pc := m.pc + 1 } with
      | on m' =>
        rw [hr] at hs
        obtain ⟨h1, h2, h3⟩ := hs
        have := ih m' h1
        cases hr2 : runP W ev f m' with
        | on m2 => simp only [hr2] at this ⊢; exact ⟨this.1, by have := this.2.1; simp only at *; omega, by have := this.2.2; simp only at *; omega⟩
        | stop m2 => simp only [hr2] at this ⊢; exact ⟨this.1, by have := this.2.1; simp only at *; omega, by have := this.2.2; simp only at *; omega⟩
        | fault e => simp only [hr2] at this ⊢; exact this
      | stop m' =>
        rw [hr] at hs
        obtain ⟨h1, h2, h3⟩ := hs
        exact ⟨h1, h2, by simp only at *; omega⟩
      | fault e => rw [hr] at hs; exact hs
    · exact ⟨h, Int.le_refl _, by omega⟩
theorem checkN_is (P : List I) : checkN P = 0 ∨ checkN P = 2 ∨ checkN P = 130 := by
  unfold checkN
  split
  · exact .inr (.inl rfl)
  · split
    · exact .inl rfl
    · exact .inr (.inr rfl)
theorem checkW_is (W : Wd) : checkW W = 0 ∨ checkW W = 2 ∨ checkW W = 130 ∨ checkW W = 1 := by
  have := checkN_is W.prog
  unfold checkW
  split
  · rcases this with h | h | h <;> rw [h] <;> simp
  · split
    · simp
    · split <;> simp
/-- How a run ends. -/
theorem later_ways {W : Wd} {r0 r1 r2 r3 r4 r5 r6 r7 d n : Int} {ev : M} :
    (∃ k, (k = 1 ∨ k = 2 ∨ k = 130) ∧ runW W ⟨[r0, r1, r2, r3, r4, r5, r6, r7], d, n⟩ ev = (⟨[0, 0, 0, 0, 0, 0, 0, 0], 0, 0⟩, [], k)) ∨
    (∃ k, (k = 50 ∨ k = 10) ∧ runW W ⟨[r0, r1, r2, r3, r4, r5, r6, r7], d, n⟩ ev = (⟨[r0, r1, r2, r3, r4, r5, r6, r7], d, n⟩, [], k)) ∨
    (∃ y0 y1 y2 y3 y4 y5 y6 y7 d' o, runW W ⟨[r0, r1, r2, r3, r4, r5, r6, r7], d, n⟩ ev = (⟨[y0, y1, y2, y3, y4, y5, y6, y7], d', n + (o.length : Int)⟩, o, 0) ∧ Late W ev.k.t o ∧ d ≤ d' ∧ d' ≤ d + 4096 ∧ checkW W = 0 ∧ chkM ev = 0 ∧ (0 ≤ d ∧ d ≤ 1125899906842624 ∧ 0 ≤ n ∧ n ≤ 1125899906842624)) := by
  by_cases hc : checkW W = 0
  · by_cases hm : chkM ev = 0 ∧ Sta.mayB ⟨[r0, r1, r2, r3, r4, r5, r6, r7], d, n⟩ = true
    · have hb : 0 ≤ d ∧ d ≤ 1125899906842624 ∧ 0 ≤ n ∧ n ≤ 1125899906842624 := by simpa [Sta.mayB] using hm.2
      have hl := run_late (W := W) (ev := ev) 4096 (firstP ⟨[r0, r1, r2, r3, r4, r5, r6, r7], d, n⟩) ⟨by simp [firstP], by simp [firstP]⟩
      have hlen := runP_len (W := W) (ev := ev) (n := 16) 4096 (firstP ⟨[r0, r1, r2, r3, r4, r5, r6, r7], d, n⟩) (by simp [firstP])
      rw [runW_go hc hm.1 hm.2]
      have fin : ∀ m' : Mc, m'.r.length = 16 → Late W ev.k.t m'.o → d ≤ m'.d → m'.d ≤ d + 4096 → ∃ y0 y1 y2 y3 y4 y5 y6 y7 d' o, ((⟨m'.r.take 8, m'.d, n + (m'.o.length : Int)⟩, m'.o, 0) : Sta × List Ot × Int) = (⟨[y0, y1, y2, y3, y4, y5, y6, y7], d', n + (o.length : Int)⟩, o, 0) ∧ Late W ev.k.t o ∧ d ≤ d' ∧ d' ≤ d + 4096 ∧ checkW W = 0 ∧ chkM ev = 0 ∧ (0 ≤ d ∧ d ≤ 1125899906842624 ∧ 0 ≤ n ∧ n ≤ 1125899906842624) := by
        intro m' hl h1 h2 h3
        obtain ⟨y0, y1, y2, y3, y4, y5, y6, y7, hy⟩ := eight (r := m'.r.take 8) (by simp [hl])
        exact ⟨y0, y1, y2, y3, y4, y5, y6, y7, m'.d, m'.o, by rw [hy], h1, h2, h3, hc, hm.1, hb⟩
      cases hr : runP W ev 4096 (firstP ⟨[r0, r1, r2, r3, r4, r5, r6, r7], d, n⟩) with
      | on m' => rw [hr] at hl hlen; exact .inr (.inr (fin m' hlen hl.1 hl.2.1 hl.2.2))
      | stop m' => rw [hr] at hl hlen; exact .inr (.inr (fin m' hlen hl.1 hl.2.1 hl.2.2))
      | fault e => rw [hr] at hl; exact .inr (.inl ⟨e, hl, rfl⟩)
    · exact .inl ⟨1, .inl rfl, runW_msg hc hm⟩
  · refine .inl ⟨checkW W, ?_, runW_chk hc⟩
    rcases checkW_is W with h | h | h | h
    · exact absurd h hc
    · exact .inr (.inl h)
    · exact .inr (.inr h)
    · exact .inl h
end Go.Proofs.YtminfmjgmmkaoaaGreatDoor
