
/-
  A new way: kindOf, New, and the document's New.
-/
import Derived.Test.YtjbammgnkegecaaKB
namespace Go.Proofs.Ytjbammgnkegecaa
open Go.ChangeShapes Go.WideShapes Go.ChangeAt Go.Shelf Go.RowKit Go.Lib Go.Sort Go.Deep
set_option linter.unusedVariables false
set_option maxRecDepth 4000

theorem ix_one (w : World) : (Instr.index 81 (.agg #[.func (.func 40) #[] #[], .func (.func 41) #[] #[]]) (.int .i64 1)).run Try.prog w = .ok (.agg #[.func (.func 41) #[] #[]]) w := by kernel_rfl
theorem ix_zero (w : World) : (Instr.index 81 (.agg #[.func (.func 40) #[] #[], .func (.func 41) #[] #[]]) (.int .i64 0)).run Try.prog w = .ok (.agg #[.func (.func 40) #[] #[]]) w := by kernel_rfl
theorem kindOf_any (f t k : Int) (b : Bool) (w : World) : Calls Try.prog 27 #[.agg #[.int .i64 f, .int .i64 t, .int .i64 k, .bool b]] w fun e w' => e = .returned (.agg #[kfV b]) ∧ Below w.heap.size w w' := by
  have hb0 : Hid (Below w.heap.size w ((w.alloc (.cells #[.int .i64 f, .int .i64 t, .int .i64 k, .bool b] 23)).alloc (.cells #[.nilFunc] 64))) := ((Below.refl _ w).alloc (Nat.le_refl _) _).alloc (by simp) _
  have hr : Hid (((w.alloc (.cells #[.int .i64 f, .int .i64 t, .int .i64 k, .bool b] 23)).alloc (.cells #[.nilFunc] 64)).heap[w.heap.size + 1]? = some (.cells #[.nilFunc] 64 (0, 0))) := by
    have := heap_alloc_new (w.alloc (.cells #[.int .i64 f, .int .i64 t, .int .i64 k, .bool b] 23)) (.cells #[.nilFunc] 64)
    have e : (w.alloc (.cells #[.int .i64 f, .int .i64 t, .int .i64 k, .bool b] 23)).heap.size = w.heap.size + 1 := by simp
    rwa [e] at this
  have hk := fun w => kinds_any w
  have hi0 := fun w => ix_zero w
  have hi1 := fun w => ix_one w
  have hfin : Hid (∀ (w2 : World), Below ((w.alloc (.cells #[.int .i64 f, .int .i64 t, .int .i64 k, .bool b] 23)).alloc (.cells #[.nilFunc] 64)).heap.size ((w.alloc (.cells #[.int .i64 f, .int .i64 t, .int .i64 k, .bool b] 23)).alloc (.cells #[.nilFunc] 64)) w2 →
      w2.heap[w.heap.size + 1]? = some (.cells #[.nilFunc] 64 (0, 0)) ∧ ∀ v, (w2.setRow (w.heap.size + 1) #[v]).cell? ⟨w.heap.size + 1, 0, none⟩ = some v ∧ Below w.heap.size w (w2.setRow (w.heap.size + 1) #[v])) := by
    intro w2 h
    have hr2 := (h.block _ (Array.getElem?_eq_some_iff.1 hr.out).1).trans hr.out
    refine ⟨hr2, fun v => ⟨cell_of_block (setRow_heap w2 (w.heap.size + 1) _ #[v] _ _ hr2) rfl, ?_⟩⟩
    exact ((KeptOff.of_below (S := fun _ => False) (hb0.out.trans (h.mono hb0.out.size))).then_new (KeptOff.setRow w2 (w.heap.size + 1) #[v]) (fun k hk e => by omega)).below (fun _ _ e => e.elim) (Nat.le_refl _)
  clear hr hb0
  cases b with
  | true =>
    go_enter Try.func27, Try.ntmps27
    go_wp2_with (first
      | (go_at_call 37; refine (hk _).mono ?_; rintro e w2 ⟨rfl, h2⟩; have h3 := hfin.out w2 h2; have h3' := Lib.hid h3; clear h3 h2)
      | (refine wpList_store_row rfl 64 (.tmp 2) (.tmp 6) rfl (w.heap.size + 1) #[.func (.func 41) #[] #[]] rfl rfl 64 #[.nilFunc] h3'.out.1 (by kernel_rfl) rfl (by simp [Value.oneCell']) ?_))
    obtain ⟨c2, hb2⟩ := h3'.out.2 (.func (.func 41) #[] #[])
    refine bodyPost_ret (v := .agg #[.func (.func 41) #[] #[]]) (by simp [results, Try.results27, go_sem, c2]) rfl ⟨rfl, hb2⟩
  | false =>
    go_enter Try.func27, Try.ntmps27
    go_wp2_with (first
      | (go_at_call 37; refine (hk _).mono ?_; rintro e w2 ⟨rfl, h2⟩; have h3 := hfin.out w2 h2; have h3' := Lib.hid h3; clear h3 h2)
      | (refine wpList_store_row rfl 64 (.tmp 2) (.tmp 8) rfl (w.heap.size + 1) #[.func (.func 40) #[] #[]] rfl rfl 64 #[.nilFunc] h3'.out.1 (by kernel_rfl) rfl (by simp [Value.oneCell']) ?_))
    obtain ⟨c2, hb2⟩ := h3'.out.2 (.func (.func 40) #[] #[])
    refine bodyPost_ret (v := .agg #[.func (.func 40) #[] #[]]) (by simp [results, Try.results27, go_sem, c2]) rfl ⟨rfl, hb2⟩

/-- Whether a way may be. -/
def okW (f t most : Int) : Prop := (0 ≤ f ∧ f < 16) ∧ (0 ≤ t ∧ t < 16) ∧ 1 ≤ most ∧ most ≤ 1024
/-- The link as a value. -/
def lkV (f t k : Int) (b : Bool) : Value := .agg #[.int .i64 f, .int .i64 t, .int .i64 k, .bool b]
set_option maxHeartbeats 2000000 in
theorem lkNew_no {f t k most : Int} {b : Bool} (h : ¬ okW f t most) (w : World) : Calls Try.prog 9 #[lkV f t k b, .int .i64 most] w fun e w' => e = .returned (.tuple #[.pointer none, .int .i64 1]) ∧ Below w.heap.size w w' := by
  have hl := fun n w => isLane_any n w
  have hb : Below w.heap.size w (w.alloc (.cells #[.int .i64 f, .int .i64 t, .int .i64 k, .bool b] 23)) := (Below.refl _ w).alloc (Nat.le_refl _) _
  have hb' := Lib.hid hb
  clear hb
  unfold okW at h
  unfold lkV
  by_cases h1 : 0 ≤ f ∧ f < 16
  · have d1 := decide_eq_true h1
    by_cases h2 : 0 ≤ t ∧ t < 16
    · have d2 := decide_eq_true h2
      by_cases h3 : most < 1
      · go_enter Try.func9, Try.ntmps9
        go_wp2_with (go_at_call 26; refine (hl _ _).mono ?_; rintro e w2 ⟨rfl, rfl⟩)
        go_ret2
        exact ⟨rfl, hb'.out⟩
      · have h4 : 1024 < most := by omega
        go_enter Try.func9, Try.ntmps9
        go_wp2_with (go_at_call 26; refine (hl _ _).mono ?_; rintro e w2 ⟨rfl, rfl⟩)
        go_ret2
        exact ⟨rfl, hb'.out⟩
    · have d2 := decide_eq_false h2
      go_enter Try.func9, Try.ntmps9
      go_wp2_with (go_at_call 26; refine (hl _ _).mono ?_; rintro e w2 ⟨rfl, rfl⟩)
      go_ret2
      exact ⟨rfl, hb'.out⟩
  · have d1 := decide_eq_false h1
    go_enter Try.func9, Try.ntmps9
    go_wp2_with (go_at_call 26; refine (hl _ _).mono ?_; rintro e w2 ⟨rfl, rfl⟩)
    go_ret2
    exact ⟨rfl, hb'.out⟩
/-- A way that has just been made. -/
def Made (w : World) (y : Wy) (hb : Nat) (w' : World) : Prop := w.heap.size ≤ hb ∧ WyAt w' hb (fun k => k = hb) y [] ∧ Below w.heap.size w w'
theorem Made.mk {w w2 : World} {y : Wy} (hy : y.ok) (hb : Below w.heap.size w w2) : Made w y w2.heap.size (w2.alloc (.cells #[.int .i64 y.fr, .int .i64 y.to, .int .i64 y.most, kfV y.loose, .slice none 0 0] 66)) :=
  ⟨hb.size, ⟨.slice none 0 0, heap_alloc_new w2 _, .inl ⟨rfl, rfl, rfl⟩, hy, rfl, fun k e => (by cases e), fun k e => (by subst e; simp)⟩, hb.alloc hb.size _⟩
set_option maxHeartbeats 2000000 in
theorem lkNew_yes {f t k most : Int} {b : Bool} (h : okW f t most) (w : World) : Calls Try.prog 9 #[lkV f t k b, .int .i64 most] w fun e w' => ∃ hb, e = .returned (.tuple #[.pointer (some ⟨hb, 0, none⟩), .int .i64 0]) ∧ Hid (Made w ⟨f, t, most, b⟩ hb w') := by
  have mixed := mixed
  have hl := fun n w => isLane_any n w
  have hb : Below w.heap.size w (w.alloc (.cells #[.int .i64 f, .int .i64 t, .int .i64 k, .bool b] 23)) := (Below.refl _ w).alloc (Nat.le_refl _) _
  have hr : (w.alloc (.cells #[.int .i64 f, .int .i64 t, .int .i64 k, .bool b] 23)).heap[w.heap.size]? = some (.cells #[.int .i64 f, .int .i64 t, .int .i64 k, .bool b] 23 (0, 0)) := heap_alloc_new w _
  obtain ⟨h1, h2, h3, h4⟩ := h
  have hmk : Hid (∀ w2, Below w.heap.size w w2 → Made w ⟨f, t, most, b⟩ w2.heap.size (w2.alloc (.cells #[.int .i64 f, .int .i64 t, .int .i64 most, kfV b, .slice none 0 0] 66))) := fun w2 hb2 => Made.mk (y := ⟨f, t, most, b⟩) ⟨h3, h4⟩ hb2
  have hkd := fun w => kindOf_any f t k b w
  have d1 := decide_eq_true h1
  have d2 := decide_eq_true h2
  have d3 : ¬ most < 1 := by omega
  have d4 : ¬ 1024 < most := by omega
  clear h1 h2
  unfold lkV
  have hS : Hid (∀ w', Below (w.alloc (.cells #[.int .i64 f, .int .i64 t, .int .i64 k, .bool b] 23)).heap.size (w.alloc (.cells #[.int .i64 f, .int .i64 t, .int .i64 k, .bool b] 23)) w' → (w'.cell? ⟨w.heap.size, 0, none⟩ = some (.int .i64 f) ∧ w'.cell? ⟨w.heap.size, 1, none⟩ = some (.int .i64 t) ∧ w'.cell? ⟨w.heap.size, 2, none⟩ = some (.int .i64 k) ∧ w'.cell? ⟨w.heap.size, 3, none⟩ = some (.bool b)) ∧ Below w.heap.size w w') := by
    intro w' hw
    have hr2 := (hw.block _ (Array.getElem?_eq_some_iff.1 hr).1).trans hr
    exact ⟨⟨cell_of_block hr2 rfl, cell_of_block hr2 rfl, cell_of_block hr2 rfl, cell_of_block hr2 rfl⟩, hb.trans (hw.mono hb.size)⟩
  clear hr hb
  generalize hkv : kfV b = kv at *
  go_enter Try.func9, Try.ntmps9
  go_upto_region 6 with (go_at_call 26; refine (hl _ _).mono ?_; rintro e w2 ⟨rfl, rfl⟩)
  generalize w.alloc (.cells #[.int .i64 f, .int .i64 t, .int .i64 k, .bool b] 23) = w0 at *
  have hd := hS.out w0.drew ((Below.refl _ w0).drew)
  have hd1 := hd.1
  clear hd
  go_region_held3 (fun w' => w'.cell? ⟨w.heap.size, 0, none⟩ = some (.int .i64 f) ∧ w'.cell? ⟨w.heap.size, 1, none⟩ = some (.int .i64 t) ∧ w'.cell? ⟨w.heap.size, 2, none⟩ = some (.int .i64 k) ∧ w'.cell? ⟨w.heap.size, 3, none⟩ = some (.bool b))
    (first | exact hd1 | exact h5 | exact (hS.out _ (hb05.out.alloc hb05.out.size _)).1)
    (first | (go_at_call 27; (with_reducible refine (hkd _).mono ?_); rintro e w5 ⟨rfl, hb5⟩; have hb05 := Lib.hid (((Below.refl _ w0).drew).trans hb5); have hw5 := hS.out w5 hb05.out; have h5 := hw5.1; have hb5' := Lib.hid hw5.2; clear hw5 hb5))
  have hM := Lib.hid (hmk.out w5 hb5'.out)
  clear h5 hS hmk
  go_wp2
  go_ret2
  exact ⟨_, rfl, hM.out⟩
end Go.Proofs.Ytjbammgnkegecaa
