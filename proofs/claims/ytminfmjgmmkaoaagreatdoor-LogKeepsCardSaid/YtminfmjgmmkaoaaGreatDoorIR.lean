/-
  A log's begin, walked.
-/
import Derived.Test.YtminfmjgmmkaoaaGreatDoorIQ
namespace Go.Proofs.YtminfmjgmmkaoaaGreatDoor
open Go.ChangeShapes Go.WideShapes Go.ChangeAt Go.Shelf Go.RowKit Go.Lib Go.Sort Go.Deep
set_option linter.unusedVariables false
set_option maxRecDepth 4000
set_option linter.unusedSimpArgs false

theorem wholeN_more {s t : Sth} {r : List Sth} {m : Nat} (h : s.L.length ≤ m) : wholeN (s :: t :: r) m = ((wholeN (t :: r) (m - s.L.length)).1 + 1, (wholeN (t :: r) (m - s.L.length)).2) := by simp [wholeN, h]
theorem wholeN_stop {s t : Sth} {r : List Sth} {m : Nat} (h : ¬ s.L.length ≤ m) : wholeN (s :: t :: r) m = (0, m) := by simp [wholeN, h]
/-- How far the loop over whole stretches has come. -/
def Whole (ss : List Sth) (n j m : Nat) : Prop := j < ss.length ∧ wholeN ss n = (j + (wholeN (ss.drop j) m).1, (wholeN (ss.drop j) m).2) ∧ m ≤ n
theorem Whole.start {ss : List Sth} {n : Nat} (h : 0 < ss.length) : Whole ss n 0 n := ⟨h, by simp, Nat.le_refl _⟩
theorem Whole.next {ss : List Sth} {n j m : Nat} {s : Sth} (h : Whole ss n j m) (hs : ss[j]? = some s) (h1 : j + 1 < ss.length) (h2 : s.L.length ≤ m) : Whole ss n (j + 1) (m - s.L.length) := by
  obtain ⟨h0, he, hm⟩ := h
  have hd : ss.drop j = s :: ss.drop (j + 1) := by
    rw [List.drop_eq_getElem_cons h0]
    rw [List.getElem?_eq_getElem h0] at hs
    rw [Option.some.inj hs]
  obtain ⟨t, r, hr⟩ : ∃ t r, ss.drop (j + 1) = t :: r := by
    rw [List.drop_eq_getElem_cons h1]
    exact ⟨_, _, rfl⟩
  refine ⟨h1, ?_, by omega⟩
  rw [he, hd, hr, wholeN_more h2]
  simp only [Prod.mk.injEq, and_true]
  omega
theorem Whole.stop {ss : List Sth} {n j m : Nat} {s : Sth} (h : Whole ss n j m) (hs : ss[j]? = some s) (h1 : ¬ (j + 1 < ss.length ∧ s.L.length ≤ m)) : wholeN ss n = (j, m) := by
  obtain ⟨h0, he, hm⟩ := h
  have hd : ss.drop j = s :: ss.drop (j + 1) := by
    rw [List.drop_eq_getElem_cons h0]
    rw [List.getElem?_eq_getElem h0] at hs
    rw [Option.some.inj hs]
  rw [he, hd]
  by_cases hj : j + 1 < ss.length
  · obtain ⟨t, r, hr⟩ : ∃ t r, ss.drop (j + 1) = t :: r := by
      rw [List.drop_eq_getElem_cons hj]
      exact ⟨_, _, rfl⟩
    rw [hr, wholeN_stop (fun h => h1 ⟨hj, h⟩)]
    simp
  · rw [List.drop_of_length_le (by omega)]
    simp [wholeN]
theorem AtT.cellAt {w : World} {g off n c k : Nat} {ss : List Sth} {s : Sth} (h : AtT w (.slice (some ⟨g, off, none⟩) n c) ss) (hs : ss[k]? = some s) : w.cell? ⟨g, off + k * 11 + 10, none⟩ = some s.v := by
  rcases h with ⟨e, _⟩ | ⟨g', off', cap', e, hr⟩
  · cases e
  · simp at e
    obtain ⟨⟨rfl, rfl⟩, _, rfl⟩ := e
    have := hr.cell (j := k * 11 + 10) (u := s.v) (by rw [flatOf_get encT_length ss k 10 s hs (by omega)]; rfl)
    rwa [← Nat.add_assoc] at this
theorem flatOf_drop {α : Type} {enc : α → List Value} {sz : Nat} (h : ∀ x, (enc x).length = sz) : ∀ (l : List α) (p : Nat), (l.drop p).flatMap enc = (l.flatMap enc).drop (p * sz)
  | l, 0 => by simp
  | [], p + 1 => by simp
  | a :: l, p + 1 => by
    rw [List.drop_succ_cons, flatOf_drop h l p, List.flatMap_cons, Nat.add_mul, Nat.one_mul, Nat.add_comm, ← List.drop_drop, List.drop_left' (h a)]
section
variable {P : Program} {w : World} {ops : Array Oper} {rest : List Oper} {o : Oper} {a : Act} {Q : Exit → Act → World → Prop}
theorem wpList_clear_front (hgd : o.guard = none) (x : Operand) (t : TypeId) (ho : o.op = .call { callee := .builtin .clear, args := #[x], argTypes := #[t] })
    {e : TypeId} {sz g off n cap k : Nat} {xs : List Value} (h : RowIn w e sz g off n cap xs) (hk : k ≤ n) (z : Value) (ht : P.underlying t = some (.slice e)) (hz : ∀ w, (zeroValue e).run P w = .ok z w) (hzs : z.cells.size = sz) (hz1 : ∀ u ∈ z.cells.toList, u.oneCell' = true)
    (c : Nat) (hx : a.eval x = .slice (some ⟨g, off, none⟩) k c)
    (hK : ∀ w', Hid (RowIn w' e sz g (off + k * sz) (n - k) (cap - k) (xs.drop (k * sz))) → Hid (KeptOff (fun k => k = g) w w') → wpList P ops Q rest (a.put o.dst (.tuple #[])) w') : wpList P ops Q (o :: rest) a w := by
  refine wpList_plain hgd fun K' hK' => ?_
  rcases Nat.eq_zero_or_pos k with rfl | hk0
  · have hrun : (Builtin.clear_ #[t] o.type #[.slice (some ⟨g, off, none⟩) 0 c]).run P w = .ok (.tuple #[]) w := by
      simp [Builtin.clear_, run_underlying ht]
    unfold Oper.wp
    simp [execOp, ho, resolve, invoke, builtin, hx, hrun, Result.andThen]
    exact hK' _ _ (hK w (by show RowIn _ _ _ _ _ _ _ _; simpa using h) (KeptOff.refl _ _))
  · obtain ⟨w', hrun, r1, r2⟩ := h.clearFront (P := P) hk t o.type z ht hz hzs hz1 hk0 c
    unfold Oper.wp
    simp [execOp, ho, resolve, invoke, builtin, hx, hrun, Result.andThen]
    exact hK' _ _ (hK w' r1 r2)
end
section
variable {w w1 : World} {lb : Nat} {v : Wv} {W : Wd} {every len : Int} {ss : List Sth} {st : Sta} {stuck : Bool}
/-- The stretches from the j-th on. -/
theorem LogX.cut {g off cap j : Nat} (h : LogX w lb v W every (.slice (some ⟨g, off, none⟩) ss.length cap) ss len st stuck) (hj : j ≤ ss.length) (hR : RowIn w1 68 11 g (off + j * 11) (ss.length - j) (cap - j) ((ss.flatMap encT).drop (j * 11))) (hk : KeptOff (fun k => k = g) w w1) :
    LogX (w1.setCell ⟨lb, 5, none⟩ (.slice (some ⟨g, off + j * 11, none⟩) (ss.length - j) (cap - j))) lb v W every (.slice (some ⟨g, off + j * 11, none⟩) (ss.length - j) (cap - j)) (ss.drop j) len st stuck := by
  have hsvg : (Value.slice (some ⟨g, off, none⟩) ss.length cap).ownBlock = some g := rfl
  have hlb : lb ≠ g := fun e => h.rd.svt.ne (logt h.row) (by decide) g hsvg (e ▸ own_lb lb)
  have hrow1 := (hk.block lb h.lt hlb).trans h.row
  have hks := KeptOff.set w1 ⟨lb, 5, none⟩ (.slice (some ⟨g, off + j * 11, none⟩) (ss.length - j) (cap - j))
  have hS := hk.mono (S' := fun k => k = g ∨ k = lb) (fun k _ e => .inl e) |>.trans (hks.mono (fun k _ e => .inr e))
  have n1 : ∀ {v' : Value} {e : TypeId}, TagV w e v' → e ≠ 68 → e ≠ 71 → ∀ k, v'.ownBlock = some k → ¬ (k = g ∨ k = lb) := fun ht h1 h2 k e0 e1 => by
    rcases e1 with e1 | e1
    · exact ht.ne h.rd.svt h1 k e0 (e1 ▸ hsvg)
    · exact ht.ne (logt h.row) h2 k e0 (e1 ▸ own_lb lb)
  have hin : ∀ s ∈ ss.drop j, s ∈ ss := fun s hs => List.mem_of_mem_drop hs
  refine ⟨?_, ⟨⟨h.rd.wds.1.keptOff hS (n1 h.rd.wtag.1 (by decide) (by decide)), h.rd.wds.2.1.keptOff hS (n1 h.rd.wtag.2 (by decide) (by decide)), h.rd.wds.2.2⟩, ⟨h.rd.wtag.1.kept hS (n1 h.rd.wtag.1 (by decide) (by decide)), h.rd.wtag.2.kept hS (n1 h.rd.wtag.2 (by decide) (by decide))⟩, ?_, fun s hs => ?_, fun s hs p hp => ?_⟩, ?_⟩
  · rw [Go.heap_setCell_same w1 lb 5 _ _ _ hrow1]; rfl
  · refine .inr ⟨g, off + j * 11, cap - j, by rw [List.length_drop], ?_⟩
    rw [List.length_drop, flatOf_drop encT_length]
    exact hR.kept hks (fun e => hlb e.symm)
  · exact RowAt.kept (h.rd.each s (hin s hs)) hS (n1 (h.rd.stt (hin s hs)) (by decide) (by decide))
  · have h0 := h.rd.sents s (hin s hs) p hp
    exact ⟨h0.1.kept hS (n1 h0.2 (by decide) (by decide)), h0.2.kept hS (n1 h0.2 (by decide) (by decide))⟩
  · exact (h.apart).sublist ((List.drop_sublist j ss).map _)
/-- The first stretch begins later. -/
theorem LogX.rebase {s : Sth} {r : List Sth} {base : Sta} {g q n cap p : Nat} {cur : Array Value} (h : LogX w lb v W every (.slice (some ⟨g, q, none⟩) n cap) (s :: r) len st stuck) (hg : w.heap[g]? = some (.cells cur 68 (0, 0))) (hQ : SpBQ w g q cur s.v s.L p base w1) :
    ∃ v', LogX w1 lb v W every (.slice (some ⟨g, q, none⟩) n cap) (⟨base, v', s.L.drop p⟩ :: r) len st stuck ∧ ∀ k, v'.ownBlock = some k → s.v.ownBlock = some k := by
  obtain ⟨v', h1, h2, hS, h4⟩ := hQ
  have hsm : s ∈ s :: r := List.mem_cons_self ..
  have hsvg : (Value.slice (some ⟨g, q, none⟩) n cap).ownBlock = some g := rfl
  have n1 : ∀ {v' : Value} {e : TypeId}, TagV w e v' → e ≠ 68 → e ≠ 101 → ∀ k, v'.ownBlock = some k → ¬ (k = g ∨ s.v.ownBlock = some k) := fun ht h1 h2 k e0 e1 => by
    rcases e1 with e1 | e1
    · exact ht.ne h.rd.svt h1 k e0 (e1 ▸ hsvg)
    · exact ht.ne (h.rd.stt hsm) h2 k e0 e1
  have hap := List.pairwise_cons.1 (show (s.v :: r.map Sth.v).Pairwise apartV from h.apart)
  refine ⟨v', ⟨(hS.block lb h.lt (n1 (logt h.row) (by decide) (by decide) lb (own_lb lb))).trans h.row, ⟨⟨h.rd.wds.1.keptOff hS (n1 h.rd.wtag.1 (by decide) (by decide)), h.rd.wds.2.1.keptOff hS (n1 h.rd.wtag.2 (by decide) (by decide)), h.rd.wds.2.2⟩, ⟨h.rd.wtag.1.kept hS (n1 h.rd.wtag.1 (by decide) (by decide)), h.rd.wtag.2.kept hS (n1 h.rd.wtag.2 (by decide) (by decide))⟩, ?_, fun t ht => ?_, fun t ht x hx => ?_⟩, ?_⟩, h4⟩
  · rcases h.rd.abv with ⟨e, _⟩ | ⟨g', q', cap', e, hr⟩
    · cases e
    · simp at e
      obtain ⟨⟨rfl, rfl⟩, rfl, rfl⟩ := e
      refine .inr ⟨g, q, cap, by simp, ?_⟩
      have ht := hr.turned 0 (encSt base ++ [v']) (by rw [flatOf_length encT_length]; simp [encSt]; omega) cur hg
      have hl : (encSt base ++ [v']).length = 11 := rfl
      rw [Nat.add_zero, hl] at ht
      have ht2 := ht.block (w' := w1) (by rw [h2, setRow_heap hg])
      have hsp : splice ((s :: r).flatMap encT) 0 (encSt base ++ [v']) = ((⟨base, v', s.L.drop p⟩ : Sth) :: r).flatMap encT := by
        unfold splice
        rw [hl, List.take_zero, List.nil_append, Nat.zero_add, List.flatMap_cons, List.flatMap_cons, List.drop_left' (encT_length s)]
        rfl
      rw [hsp] at ht2
      simpa using ht2
  · rcases List.mem_cons.1 ht with rfl | ht
    · exact h1
    · exact RowAt.kept (h.rd.each t (List.mem_cons_of_mem _ ht)) hS (fun k e e2 => by
        rcases e2 with e2 | e2
        · exact (h.rd.stt (List.mem_cons_of_mem _ ht)).ne h.rd.svt (by decide) k e (e2 ▸ hsvg)
        · exact hap.1 t.v (List.mem_map_of_mem ht) k e2 e)
  · rcases List.mem_cons.1 ht with rfl | ht
    · have h0 := h.rd.sents s hsm x (List.mem_of_mem_drop hx)
      exact ⟨h0.1.kept hS (n1 h0.2 (by decide) (by decide)), h0.2.kept hS (n1 h0.2 (by decide) (by decide))⟩
    · have h0 := h.rd.sents t (List.mem_cons_of_mem _ ht) x hx
      exact ⟨h0.1.kept hS (n1 h0.2 (by decide) (by decide)), h0.2.kept hS (n1 h0.2 (by decide) (by decide))⟩
  · exact List.pairwise_cons.2 ⟨fun b hb k e1 e2 => hap.1 b hb k (h4 k e1) e2, hap.2⟩
end
/-- What a log's begin leaves. -/
def BegQ (w : World) (lb : Nat) (v : Wv) (W : Wd) (every : Int) (sv : Value) (ss : List Sth) (len : Int) (st : Sta) (stuck : Bool) (n : Nat) (base : Sta) (w' : World) : Prop :=
  ∃ s r sv' v', ss.drop (wholeN ss n).1 = s :: r ∧ LogX w' lb v W every sv' (⟨base, v', s.L.drop (wholeN ss n).2⟩ :: r) (len - (n : Int)) st stuck ∧ KeptOff (LOwn lb sv ss) w w' ∧ (∀ k, sv'.ownBlock = some k → sv.ownBlock = some k) ∧ ∀ k, v'.ownBlock = some k → s.v.ownBlock = some k
theorem zeroT11 (w : World) : (zeroValue 68).run Tryz.prog w = .ok (.agg z11) w := by kernel_rfl
theorem drop_form {ss : List Sth} {j : Nat} {s : Sth} (h : ss[j]? = some s) : ss.drop j = s :: ss.drop (j + 1) := by
  have h0 := (List.getElem?_eq_some_iff.1 h).1
  rw [List.drop_eq_getElem_cons h0]
  rw [List.getElem?_eq_getElem h0] at h
  rw [Option.some.inj h]
set_option maxHeartbeats 16000000 in
theorem lgBegin_any {w : World} {lb : Nat} {v : Wv} {W : Wd} {every len : Int} {sv : Value} {ss : List Sth} {st base : Sta} {stuck : Bool} {n : Nat} (hX : LogX w lb v W every sv ss len st stuck) (hp : 0 < ss.length) (hn : ss.length < 16384) (hnn : n < 16384) (hlen : 0 ≤ len ∧ len < 16384) (hL : ∀ s ∈ ss, s.L.length < 16384)
    (hcut : ∀ s r, ss.drop (wholeN ss n).1 = s :: r → (wholeN ss n).2 ≤ s.L.length) :
    Calls Tryz.prog 37 #[.pointer (some ⟨lb, 0, none⟩), .int .i64 (n : Int), .agg (encSt base).toArray] w fun e w' => e = .returned (.tuple #[]) ∧ Hid (BegQ w lb v W every sv ss len st stuck n base w') := by
  have mixed := mixed
  obtain ⟨g, off, cap, rfl⟩ := hX.form hp
  have hb0 := Lib.hid ((Below.refl _ w).alloc (Nat.le_refl _) (.cells (encSt base).toArray 34))
  have hB0 := Lib.hid (heap_alloc_new w (.cells (encSt base).toArray 34))
  have hX0 := Lib.hid (hX.below hb0.out)
  have c6 := hX0.out.c6
  have f6 := hX0.out.fz 6
  have hlb := hX.lt
  have a1 : IntKind.i64.wrap (len - (n : Int)) = len - (n : Int) := IntWalk.i64_in _ (by omega)
  have hcap : ss.length ≤ cap := by
    rcases hX.rd.abv with ⟨e, _⟩ | ⟨g', off', cap', e, hr⟩
    · cases e
    · simp at e
      obtain ⟨⟨rfl, rfl⟩, rfl⟩ := e
      exact hr.bounds.1
  have hls : (encSt base).length = 10 := rfl
  have hcst : ∃ cst, encSt base = cst := ⟨_, rfl⟩
  obtain ⟨cst, hcst⟩ := hcst
  rw [hcst] at hb0 hB0 hX0 c6 f6 hls ⊢
  have hcst' := Lib.hid hcst
  have hcc : (Value.agg cst.toArray).cells = cst.toArray := rfl
  have hcut' := Lib.hid hcut
  clear hX hcst hcut
  go_enter Tryz.func37, Tryz.ntmps37
  go_upto_region 1 with (fail)
  generalize w.alloc (.cells cst.toArray 34) = w0 at *
  go_wp2_with fail
  have hX1 := Lib.hid (hX0.out.setLen (len - (n : Int)))
  have hk1 := Lib.hid (KeptOff.set w0 ⟨lb, 6, none⟩ (.int .i64 (len - (n : Int))))
  clear c6 f6
  generalize w0.setCell ⟨lb, 6, none⟩ (.int .i64 (len - (n : Int))) = w1 at *
  go_loop [1, 6] (fun nv wh => ∃ j m : Nat, wh = .int .i64 (j : Int) ∧ nv = .int .i64 (m : Int) ∧ Hid (Whole ss n j m)) (fun _ wh => ss.length - (intOf wh).toNat)
  case atStart => exact ⟨0, n, rfl, rfl, Lib.hid (Whole.start hp)⟩
  case round =>
    obtain ⟨j, m, rfl, rfl, hWh⟩ := hrel
    have hj := hWh.out.1
    have hm := hWh.out.2.2
    obtain ⟨s, hs0⟩ : ∃ s, ss[j]? = some s := ⟨_, List.getElem?_eq_getElem hj⟩
    have hs := Lib.hid hs0
    clear hs0
    have hsm := List.mem_of_getElem? hs.out
    have hsl := hL s hsm
    have c5 := hX1.out.c5
    obtain ⟨va, vc, hva, -⟩ := RowAt.shape (hX1.out.rd.each s hsm)
    have cs : w1.cell? ⟨g, off + j * 11 + 10, none⟩ = some (.slice va s.L.length vc) := by rw [← hva]; exact AtT.cellAt hX1.out.rd.abv hs.out
    have a2 : IntKind.i64.wrap ((ss.length : Int) - 1) = (ss.length : Int) - 1 := IntWalk.i64_in _ (by omega)
    have a3 : (0 : Int) ≤ (j : Int) := by omega
    have a4 : (j : Int) < (ss.length : Int) := by omega
    have hva' := Lib.hid hva
    clear hva
    by_cases hgo : j + 1 < ss.length ∧ s.L.length ≤ m
    · obtain ⟨h1, h2⟩ := hgo
      have a5 : (j : Int) < (ss.length : Int) - 1 := by omega
      have a6 : (s.L.length : Int) ≤ (m : Int) := by omega
      have a7 : IntKind.i64.wrap ((m : Int) - (s.L.length : Int)) = (m : Int) - (s.L.length : Int) := IntWalk.i64_in _ (by omega)
      have a8 : IntKind.i64.wrap ((j : Int) + 1) = (j : Int) + 1 := IntWalk.i64_in _ (by omega)
      go_wp2
      go_round
      case rel => exact ⟨j + 1, m - s.L.length, by go_num, by rw [Int.ofNat_sub h2], Lib.hid (hWh.out.next hs.out h1 h2)⟩
      case measure => simp [intOf]; omega
    · have hw := hWh.out.stop hs.out hgo
      have hd := drop_form hs.out
      have hmL : m ≤ s.L.length := by
        have := hcut'.out s (ss.drop (j + 1)) (by rw [hw]; exact hd)
        rwa [hw] at this
      have hrow : Hid (RowIn w1 68 11 g off ss.length cap (ss.flatMap encT)) := Lib.hid (by
        rcases hX1.out.rd.abv with ⟨e, _⟩ | ⟨g', off', cap', e, hr⟩
        · cases e
        · simp at e
          obtain ⟨⟨rfl, rfl⟩, rfl⟩ := e
          exact hr)
      have hsvg : (Value.slice (some ⟨g, off, none⟩) ss.length cap).ownBlock = some g := rfl
      have hlbg : lb ≠ g := fun e => hX1.out.rd.svt.ne (logt hX1.out.row) (by decide) g hsvg (e ▸ own_lb lb)
      have hc2 : Hid (∀ w2, KeptOff (fun k => k = g) w1 w2 → w2.cell? ⟨lb, 5, none⟩ = some (.slice (some ⟨g, off, none⟩) ss.length cap) ∧ w2.frozen? ⟨lb, 5, none⟩ = false) := Lib.hid (fun w2 h => by
        have := (h.block lb hX1.out.lt hlbg).trans hX1.out.row
        exact ⟨row_cell this 5 rfl, frozen_of_cells this⟩)
      have hw' := Lib.hid hw
      have hd' := Lib.hid hd
      have hgo' := Lib.hid hgo
      have hne : ¬ cap = j := by omega
      have hjl : (j : Int) ≤ (ss.length : Int) := by omega
      have hjc : (j : Int) ≤ (cap : Int) := by omega
      have hjl2 : j ≤ ss.length := by omega
      have hlc : (ss.length : Int) ≤ (cap : Int) := by omega
      have hpos : (0 : Int) < ((ss.length - j : Nat) : Int) := by omega
      have hpos2 : 0 < ss.length - j := by omega
      have hlbg' := Lib.hid hlbg
      clear hw hd hgo hsvg hlbg
      have hcase : (¬ (j : Int) < (ss.length : Int) - 1) ∨ ((j : Int) < (ss.length : Int) - 1 ∧ ¬ (s.L.length : Int) ≤ (m : Int)) := by
        have := hgo'.out
        by_cases h1 : (j : Int) < (ss.length : Int) - 1
        · exact .inr ⟨h1, fun h2 => this ⟨by omega, by omega⟩⟩
        · exact .inl h1
      rcases hcase with a5 | ⟨a5, a6⟩
      · go_wp2_with (refine wpList_clear_front rfl (.tmp 54) 69 rfl hrow.out hjl2 (.agg z11) Tryz.underlying69 zeroT11 rfl (by simp [z11, Value.cells, Value.oneCell']) _ rfl ?_; intro w2 hr2 hk2; obtain ⟨c5', f5'⟩ := hc2.out w2 hk2.out; clear c5 cs)
        have hX3 := Lib.hid (hX1.out.cut hjl2 hr2.out hk2.out)
        have hk3 := Lib.hid (KeptOff.set w2 ⟨lb, 5, none⟩ (.slice (some ⟨g, off + j * 11, none⟩) (ss.length - j) (cap - j)))
        clear c5' f5' hr2
        generalize w2.setCell ⟨lb, 5, none⟩ (.slice (some ⟨g, off + j * 11, none⟩) (ss.length - j) (cap - j)) = w3 at *
        rw [hd'.out] at hX3
        obtain ⟨cur, hcur⟩ : ∃ cur, w3.heap[g]? = some (.cells cur 68 (0, 0)) := RowAt.tag hX3.out.rd.abv rfl
        have hcur' := Lib.hid hcur
        have hK03 : Hid (KeptOff (fun k => k = g ∨ k = lb) w0 w3) := Lib.hid (((hk1.out.mono (fun k _ e => .inr e)).trans (hk2.out.mono (fun k _ e => .inl e))).trans (hk3.out.mono (fun k _ e => .inr e)))
        have hbx3 : Hid (w3.heap[w.heap.size]? = some (.cells cst.toArray 34 (0, 0))) := Lib.hid ((hK03.out.block _ (Array.getElem?_eq_some_iff.1 hB0.out).1 (fun e => by
          rcases e with e | e
          · obtain ⟨c0, h0⟩ := hX0.out.rd.svt g rfl
            rw [← e, hB0.out] at h0
            simp at h0
          · omega)).trans hB0.out)
        have hF : Hid (∀ w', Below w3.heap.size w3 w' → w'.cell? ⟨lb, 5, none⟩ = some (.slice (some ⟨g, off + j * 11, none⟩) (ss.length - j) (cap - j)) ∧ w'.rangeAt w.heap.size 0 cst) := Lib.hid (fun w' h => ⟨(hX3.out.below h).c5, by
          have := range_block ((h.block _ (Array.getElem?_eq_some_iff.1 hbx3.out).1).trans hbx3.out)
          simpa using this⟩)
        have hsb : Hid (∀ w', Below w3.heap.size w3 w' → Calls Tryz.prog 56 #[.pointer (some ⟨g, off + j * 11, none⟩), .int .i64 (m : Int), .agg cst.toArray] w' fun e w5 => e = .returned (.tuple #[]) ∧ Hid (SpBQ w' g (off + j * 11) cur s.v s.L m base w5)) := Lib.hid (fun w' h => by
          have hX4 := hX3.out.below h
          have hg4 := (h.block g (Array.getElem?_eq_some_iff.1 hcur'.out).1).trans hcur'.out
          rw [← hcst'.out]
          rcases hX4.rd.abv with ⟨e, _⟩ | ⟨g', q', cap', e, hr⟩
          · cases e
          · simp at e
            obtain ⟨⟨rfl, rfl⟩, hln, rfl⟩ := e
            obtain ⟨cur2, e1, e2, e3, e4, e5, e6⟩ := hr
            obtain rfl : cur2 = cur := by rw [e1] at hg4; simpa using hg4
            have e7 : ((s :: ss.drop (j + 1)).flatMap encT)[10]? = some s.v := by rw [List.flatMap_cons, List.getElem?_append_left (by rw [encT_length]; omega)]; rfl
            refine spBegin_any (q := off + j * 11) e1 (by simp only [List.length_cons] at e2 hln; omega) (e6 10 _ e7) (hX4.rd.each s (List.mem_cons_self ..)) hmL (by omega) (fun x hx => ?_)
            obtain ⟨sa, sc, he, -⟩ := (hX4.rd.sents s (List.mem_cons_self ..) x hx).1
            rw [he]
            rfl)
        have hF2 : Hid (∀ w5, SpBQ w3.drew g (off + j * 11) cur s.v s.L m base w5 → (w5.cell? ⟨lb, 5, none⟩ = some (.slice (some ⟨g, off + j * 11, none⟩) (ss.length - j) (cap - j)) ∧ w5.rangeAt w.heap.size 0 cst) ∧ BegQ w lb v W every (.slice (some ⟨g, off, none⟩) ss.length cap) ss len st stuck n base w5) := Lib.hid (fun w5 hq => by
          have hXd := hX3.out.below (Below.refl _ w3).drew
          obtain ⟨v', hv1, hv2⟩ := hXd.rebase (cur := cur) hcur'.out hq
          obtain ⟨_, _, _, hkq, _⟩ := hq
          have hbq := (hkq.block w.heap.size (Array.getElem?_eq_some_iff.1 hbx3.out).1 (fun e => by
            rcases e with e | e
            · rw [← e] at hcur'
              have := hcur'.out
              rw [hbx3.out] at this
              simp at this
            · obtain ⟨c0, h0⟩ := hX3.out.rd.stt (List.mem_cons_self ..) w.heap.size e
              rw [hbx3.out] at h0
              simp at h0)).trans hbx3.out
          refine ⟨⟨hv1.c5, by
            have := range_block hbq
            simpa using this⟩, s, ss.drop (j + 1), _, v', by rw [hw'.out]; exact hd'.out, by rw [hw'.out]; exact hv1, ?_, fun k e => by simpa [Value.ownBlock] using e, hv2⟩
          refine ((KeptOff.of_below hb0.out).trans (hK03.out.mono (fun k _ e => ?_))).trans (KeptOff.undrew (hkq.mono (fun k _ e => ?_)))
          · rcases e with e | e
            · exact .inr (.inl (by rw [e]; rfl))
            · exact .inl e
          · rcases e with e | e
            · exact .inr (.inl (by rw [e]; rfl))
            · exact .inr (.inr ⟨s, hsm, e⟩))
        clear hcur hK03 hbx3 hrow hc2
        refine wp_region_held_drew (S := fun w' => w'.cell? ⟨lb, 5, none⟩ = some (.slice (some ⟨g, off + j * 11, none⟩) (ss.length - j) (cap - j)) ∧ w'.rangeAt w.heap.size 0 cst) (by kernel_rfl) (hF.out _ (Below.refl _ w3).drew) (fun hHeld => ?_)
        clear hHeld
        have hHd := hF.out _ (Below.refl _ w3).drew
        refine wpAnyH_take (i := 0) (oi := { dst := some 64, op := Op.move (Operand.tmp 0), type := 28, pos := "log.go:208", after := #[], guard := none }) (v := ?vv0_1) rfl (by kernel_rfl) (by kernel_rfl) (by kernel_rfl) (fun _ _ _ h => h) (Or.inl ⟨by rfl, ?hy0_1⟩) hHd ?rest0_1
        case hy0_1 =>
          intro w hSw
          go_simp
          try with_reducible rfl
        try simp only [Act.put, List.setIfInBounds_toArray, List.set_cons_zero, List.set_cons_succ]
        refine wpAnyH_take (i := 1) (oi := { dst := some 65, op := Op.nilCheck (Operand.tmp 64), type := 0, pos := "log.go:208", after := #[{ on := 0, ground := Ground.data }], guard := none }) (v := ?vv1_2) rfl (by kernel_rfl) (by kernel_rfl) (by kernel_rfl) (fun _ _ _ h => h) (Or.inl ⟨by rfl, ?hy1_2⟩) hHd ?rest1_2
        case hy1_2 =>
          intro w hSw
          go_simp
          try with_reducible rfl
        try simp only [Act.put, List.setIfInBounds_toArray, List.set_cons_zero, List.set_cons_succ]
        refine wpAnyH_take (i := 2) (oi := { dst := some 66, op := Op.fieldAddr 71 (Operand.tmp 65) 2, type := 0, pos := "log.go:208", after := #[{ on := 1, ground := Ground.data }], guard := none }) (v := ?vv2_3) rfl (by kernel_rfl) (by kernel_rfl) (by kernel_rfl) (fun _ _ _ h => h) (Or.inl ⟨by rfl, ?hy2_3⟩) hHd ?rest2_3
        case hy2_3 =>
          intro w hSw
          go_simp
          try with_reducible rfl
        try simp only [Act.put, List.setIfInBounds_toArray, List.set_cons_zero, List.set_cons_succ]
        refine wpAnyH_take (i := 3) (oi := { dst := some 67, op := Op.load 69 (Operand.tmp 66), type := 69, pos := "log.go:208", after := #[{ on := 2, ground := Ground.data }], guard := none }) (v := ?vv3_4) rfl (by kernel_rfl) (by kernel_rfl) (by kernel_rfl) (fun _ _ _ h => h) (Or.inl ⟨by rfl, ?hy3_4⟩) hHd ?rest3_4
        case hy3_4 =>
          intro w hSw
          have c := hSw.1
          go_simp
          try with_reducible rfl
        try simp only [Act.put, List.setIfInBounds_toArray, List.set_cons_zero, List.set_cons_succ]
        refine wpAnyH_take (i := 4) (oi := { dst := some 68, op := Op.indexAddr 69 (Operand.tmp 67) (Operand.const (Value.int IntKind.i64 0)), type := 0, pos := "log.go:208", after := #[{ on := 3, ground := Ground.data }], guard := none }) (v := ?vv4_5) rfl (by kernel_rfl) (by kernel_rfl) (by kernel_rfl) (fun _ _ _ h => h) (Or.inl ⟨by rfl, ?hy4_5⟩) hHd ?rest4_5
        case hy4_5 =>
          intro w hSw
          go_simp
          try with_reducible rfl
        try simp only [Act.put, List.setIfInBounds_toArray, List.set_cons_zero, List.set_cons_succ]
        refine wpAnyH_take (i := 5) (oi := { dst := some 69, op := Op.move (Operand.tmp 1), type := 3, pos := "log.go:208", after := #[], guard := none }) (v := ?vv5_6) rfl (by kernel_rfl) (by kernel_rfl) (by kernel_rfl) (fun _ _ _ h => h) (Or.inl ⟨by rfl, ?hy5_6⟩) hHd ?rest5_6
        case hy5_6 =>
          intro w hSw
          go_simp
          try with_reducible rfl
        try simp only [Act.put, List.setIfInBounds_toArray, List.set_cons_zero, List.set_cons_succ]
        refine wpAnyH_take (i := 6) (oi := { dst := some 70, op := Op.load 34 (Operand.tmp 5), type := 34, pos := "log.go:208", after := #[], guard := none }) (v := .agg (cst).toArray) rfl (by kernel_rfl) (by kernel_rfl) (by kernel_rfl) (fun _ _ _ h => h) (yieldsIf_load_mid (by rfl) 34 (.tmp 5) (by rfl) w.heap.size 0 (by rfl) (cst) _ (fun w' h => h.2) Tryz.underlying34 rfl (by rw [hls]; exact infoS10)) hHd ?_
        try simp only [Act.put, List.setIfInBounds_toArray, List.set_cons_zero, List.set_cons_succ]
        refine wpAnyH_ready (rs := [7]) (by kernel_rfl) (by simp) ?_
        refine AllReadyH.cons (o := { dst := some 71, op := Op.call { callee := Callee.value (Operand.func 56), args := #[Operand.tmp 68, Operand.tmp 69, Operand.tmp 70], argTypes := #[68, 3, 34] }, type := 0, pos := "log.go:208", after := #[{ on := 4, ground := Ground.data }, { on := 5, ground := Ground.data }, { on := 6, ground := Ground.data }], guard := none }) rfl (fun K hK => ?_) AllReadyH.nil
        go_simp
        refine (hsb.out _ (Below.refl _ w3).drew).mono ?_
        rintro e w5 ⟨rfl, hq5⟩
        obtain ⟨hHw, hfin0⟩ := hF2.out _ hq5.out
        have hfin := Lib.hid hfin0
        clear hfin0 hq5
        refine hK.out _ _ hHw (fun hHeld => ?_)
        clear hHeld hK K
        try simp only [Act.put, List.setIfInBounds_toArray, List.set_cons_zero, List.set_cons_succ]
        refine wpAnyH_done (by kernel_rfl) ?_ _
        clear hHw hHd
        go_wp2
        go_end0
        exact ⟨rfl, hfin⟩
      · go_wp2_with (refine wpList_clear_front rfl (.tmp 54) 69 rfl hrow.out hjl2 (.agg z11) Tryz.underlying69 zeroT11 rfl (by simp [z11, Value.cells, Value.oneCell']) _ rfl ?_; intro w2 hr2 hk2; obtain ⟨c5', f5'⟩ := hc2.out w2 hk2.out; clear c5 cs)
        have hX3 := Lib.hid (hX1.out.cut hjl2 hr2.out hk2.out)
        have hk3 := Lib.hid (KeptOff.set w2 ⟨lb, 5, none⟩ (.slice (some ⟨g, off + j * 11, none⟩) (ss.length - j) (cap - j)))
        clear c5' f5' hr2
        generalize w2.setCell ⟨lb, 5, none⟩ (.slice (some ⟨g, off + j * 11, none⟩) (ss.length - j) (cap - j)) = w3 at *
        rw [hd'.out] at hX3
        obtain ⟨cur, hcur⟩ : ∃ cur, w3.heap[g]? = some (.cells cur 68 (0, 0)) := RowAt.tag hX3.out.rd.abv rfl
        have hcur' := Lib.hid hcur
        have hK03 : Hid (KeptOff (fun k => k = g ∨ k = lb) w0 w3) := Lib.hid (((hk1.out.mono (fun k _ e => .inr e)).trans (hk2.out.mono (fun k _ e => .inl e))).trans (hk3.out.mono (fun k _ e => .inr e)))
        have hbx3 : Hid (w3.heap[w.heap.size]? = some (.cells cst.toArray 34 (0, 0))) := Lib.hid ((hK03.out.block _ (Array.getElem?_eq_some_iff.1 hB0.out).1 (fun e => by
          rcases e with e | e
          · obtain ⟨c0, h0⟩ := hX0.out.rd.svt g rfl
            rw [← e, hB0.out] at h0
            simp at h0
          · omega)).trans hB0.out)
        have hF : Hid (∀ w', Below w3.heap.size w3 w' → w'.cell? ⟨lb, 5, none⟩ = some (.slice (some ⟨g, off + j * 11, none⟩) (ss.length - j) (cap - j)) ∧ w'.rangeAt w.heap.size 0 cst) := Lib.hid (fun w' h => ⟨(hX3.out.below h).c5, by
          have := range_block ((h.block _ (Array.getElem?_eq_some_iff.1 hbx3.out).1).trans hbx3.out)
          simpa using this⟩)
        have hsb : Hid (∀ w', Below w3.heap.size w3 w' → Calls Tryz.prog 56 #[.pointer (some ⟨g, off + j * 11, none⟩), .int .i64 (m : Int), .agg cst.toArray] w' fun e w5 => e = .returned (.tuple #[]) ∧ Hid (SpBQ w' g (off + j * 11) cur s.v s.L m base w5)) := Lib.hid (fun w' h => by
          have hX4 := hX3.out.below h
          have hg4 := (h.block g (Array.getElem?_eq_some_iff.1 hcur'.out).1).trans hcur'.out
          rw [← hcst'.out]
          rcases hX4.rd.abv with ⟨e, _⟩ | ⟨g', q', cap', e, hr⟩
          · cases e
          · simp at e
            obtain ⟨⟨rfl, rfl⟩, hln, rfl⟩ := e
            obtain ⟨cur2, e1, e2, e3, e4, e5, e6⟩ := hr
            obtain rfl : cur2 = cur := by rw [e1] at hg4; simpa using hg4
            have e7 : ((s :: ss.drop (j + 1)).flatMap encT)[10]? = some s.v := by rw [List.flatMap_cons, List.getElem?_append_left (by rw [encT_length]; omega)]; rfl
            refine spBegin_any (q := off + j * 11) e1 (by simp only [List.length_cons] at e2 hln; omega) (e6 10 _ e7) (hX4.rd.each s (List.mem_cons_self ..)) hmL (by omega) (fun x hx => ?_)
            obtain ⟨sa, sc, he, -⟩ := (hX4.rd.sents s (List.mem_cons_self ..) x hx).1
            rw [he]
            rfl)
        have hF2 : Hid (∀ w5, SpBQ w3.drew g (off + j * 11) cur s.v s.L m base w5 → (w5.cell? ⟨lb, 5, none⟩ = some (.slice (some ⟨g, off + j * 11, none⟩) (ss.length - j) (cap - j)) ∧ w5.rangeAt w.heap.size 0 cst) ∧ BegQ w lb v W every (.slice (some ⟨g, off, none⟩) ss.length cap) ss len st stuck n base w5) := Lib.hid (fun w5 hq => by
          have hXd := hX3.out.below (Below.refl _ w3).drew
          obtain ⟨v', hv1, hv2⟩ := hXd.rebase (cur := cur) hcur'.out hq
          obtain ⟨_, _, _, hkq, _⟩ := hq
          have hbq := (hkq.block w.heap.size (Array.getElem?_eq_some_iff.1 hbx3.out).1 (fun e => by
            rcases e with e | e
            · rw [← e] at hcur'
              have := hcur'.out
              rw [hbx3.out] at this
              simp at this
            · obtain ⟨c0, h0⟩ := hX3.out.rd.stt (List.mem_cons_self ..) w.heap.size e
              rw [hbx3.out] at h0
              simp at h0)).trans hbx3.out
          refine ⟨⟨hv1.c5, by
            have := range_block hbq
            simpa using this⟩, s, ss.drop (j + 1), _, v', by rw [hw'.out]; exact hd'.out, by rw [hw'.out]; exact hv1, ?_, fun k e => by simpa [Value.ownBlock] using e, hv2⟩
          refine ((KeptOff.of_below hb0.out).trans (hK03.out.mono (fun k _ e => ?_))).trans (KeptOff.undrew (hkq.mono (fun k _ e => ?_)))
          · rcases e with e | e
            · exact .inr (.inl (by rw [e]; rfl))
            · exact .inl e
          · rcases e with e | e
            · exact .inr (.inl (by rw [e]; rfl))
            · exact .inr (.inr ⟨s, hsm, e⟩))
        clear hcur hK03 hbx3 hrow hc2
        refine wp_region_held_drew (S := fun w' => w'.cell? ⟨lb, 5, none⟩ = some (.slice (some ⟨g, off + j * 11, none⟩) (ss.length - j) (cap - j)) ∧ w'.rangeAt w.heap.size 0 cst) (by kernel_rfl) (hF.out _ (Below.refl _ w3).drew) (fun hHeld => ?_)
        clear hHeld
        have hHd := hF.out _ (Below.refl _ w3).drew
        refine wpAnyH_take (i := 0) (oi := { dst := some 64, op := Op.move (Operand.tmp 0), type := 28, pos := "log.go:208", after := #[], guard := none }) (v := ?vv0_7) rfl (by kernel_rfl) (by kernel_rfl) (by kernel_rfl) (fun _ _ _ h => h) (Or.inl ⟨by rfl, ?hy0_7⟩) hHd ?rest0_7
        case hy0_7 =>
          intro w hSw
          go_simp
          try with_reducible rfl
        try simp only [Act.put, List.setIfInBounds_toArray, List.set_cons_zero, List.set_cons_succ]
        refine wpAnyH_take (i := 1) (oi := { dst := some 65, op := Op.nilCheck (Operand.tmp 64), type := 0, pos := "log.go:208", after := #[{ on := 0, ground := Ground.data }], guard := none }) (v := ?vv1_8) rfl (by kernel_rfl) (by kernel_rfl) (by kernel_rfl) (fun _ _ _ h => h) (Or.inl ⟨by rfl, ?hy1_8⟩) hHd ?rest1_8
        case hy1_8 =>
          intro w hSw
          go_simp
          try with_reducible rfl
        try simp only [Act.put, List.setIfInBounds_toArray, List.set_cons_zero, List.set_cons_succ]
        refine wpAnyH_take (i := 2) (oi := { dst := some 66, op := Op.fieldAddr 71 (Operand.tmp 65) 2, type := 0, pos := "log.go:208", after := #[{ on := 1, ground := Ground.data }], guard := none }) (v := ?vv2_9) rfl (by kernel_rfl) (by kernel_rfl) (by kernel_rfl) (fun _ _ _ h => h) (Or.inl ⟨by rfl, ?hy2_9⟩) hHd ?rest2_9
        case hy2_9 =>
          intro w hSw
          go_simp
          try with_reducible rfl
        try simp only [Act.put, List.setIfInBounds_toArray, List.set_cons_zero, List.set_cons_succ]
        refine wpAnyH_take (i := 3) (oi := { dst := some 67, op := Op.load 69 (Operand.tmp 66), type := 69, pos := "log.go:208", after := #[{ on := 2, ground := Ground.data }], guard := none }) (v := ?vv3_10) rfl (by kernel_rfl) (by kernel_rfl) (by kernel_rfl) (fun _ _ _ h => h) (Or.inl ⟨by rfl, ?hy3_10⟩) hHd ?rest3_10
        case hy3_10 =>
          intro w hSw
          have c := hSw.1
          go_simp
          try with_reducible rfl
        try simp only [Act.put, List.setIfInBounds_toArray, List.set_cons_zero, List.set_cons_succ]
        refine wpAnyH_take (i := 4) (oi := { dst := some 68, op := Op.indexAddr 69 (Operand.tmp 67) (Operand.const (Value.int IntKind.i64 0)), type := 0, pos := "log.go:208", after := #[{ on := 3, ground := Ground.data }], guard := none }) (v := ?vv4_11) rfl (by kernel_rfl) (by kernel_rfl) (by kernel_rfl) (fun _ _ _ h => h) (Or.inl ⟨by rfl, ?hy4_11⟩) hHd ?rest4_11
        case hy4_11 =>
          intro w hSw
          go_simp
          try with_reducible rfl
        try simp only [Act.put, List.setIfInBounds_toArray, List.set_cons_zero, List.set_cons_succ]
        refine wpAnyH_take (i := 5) (oi := { dst := some 69, op := Op.move (Operand.tmp 1), type := 3, pos := "log.go:208", after := #[], guard := none }) (v := ?vv5_12) rfl (by kernel_rfl) (by kernel_rfl) (by kernel_rfl) (fun _ _ _ h => h) (Or.inl ⟨by rfl, ?hy5_12⟩) hHd ?rest5_12
        case hy5_12 =>
          intro w hSw
          go_simp
          try with_reducible rfl
        try simp only [Act.put, List.setIfInBounds_toArray, List.set_cons_zero, List.set_cons_succ]
        refine wpAnyH_take (i := 6) (oi := { dst := some 70, op := Op.load 34 (Operand.tmp 5), type := 34, pos := "log.go:208", after := #[], guard := none }) (v := .agg (cst).toArray) rfl (by kernel_rfl) (by kernel_rfl) (by kernel_rfl) (fun _ _ _ h => h) (yieldsIf_load_mid (by rfl) 34 (.tmp 5) (by rfl) w.heap.size 0 (by rfl) (cst) _ (fun w' h => h.2) Tryz.underlying34 rfl (by rw [hls]; exact infoS10)) hHd ?_
        try simp only [Act.put, List.setIfInBounds_toArray, List.set_cons_zero, List.set_cons_succ]
        refine wpAnyH_ready (rs := [7]) (by kernel_rfl) (by simp) ?_
        refine AllReadyH.cons (o := { dst := some 71, op := Op.call { callee := Callee.value (Operand.func 56), args := #[Operand.tmp 68, Operand.tmp 69, Operand.tmp 70], argTypes := #[68, 3, 34] }, type := 0, pos := "log.go:208", after := #[{ on := 4, ground := Ground.data }, { on := 5, ground := Ground.data }, { on := 6, ground := Ground.data }], guard := none }) rfl (fun K hK => ?_) AllReadyH.nil
        go_simp
        refine (hsb.out _ (Below.refl _ w3).drew).mono ?_
        rintro e w5 ⟨rfl, hq5⟩
        obtain ⟨hHw, hfin0⟩ := hF2.out _ hq5.out
        have hfin := Lib.hid hfin0
        clear hfin0 hq5
        refine hK.out _ _ hHw (fun hHeld => ?_)
        clear hHeld hK K
        try simp only [Act.put, List.setIfInBounds_toArray, List.set_cons_zero, List.set_cons_succ]
        refine wpAnyH_done (by kernel_rfl) ?_ _
        clear hHw hHd
        go_wp2
        go_end0
        exact ⟨rfl, hfin⟩
end Go.Proofs.YtminfmjgmmkaoaaGreatDoor
