
/-
  The place of a message in a list in order; the place of a day among days that rise; the day of a time.
-/
import Derived.Test.YticffeklmhcniaaYD
namespace Go.Proofs.Yticffeklmhcniaa
open Go.ChangeShapes Go.WideShapes Go.ChangeAt Go.Shelf Go.RowKit Go.Lib Go.Sort Go.Deep
set_option linter.unusedVariables false

/-- p is the place of m in l. -/
def PlaceOf (l : List M) (m : M) (p : Nat) : Prop := p ≤ l.length ∧ (∀ i, i < p → ltM (l.getD i default) m = true) ∧ ∀ i, p ≤ i → i < l.length → ltM (l.getD i default) m = false
theorem order_mono {l : List M} (h : InOrder ltM l) (m : M) (i j : Nat) (hij : i < j) (hj : j < l.length) (hl : ltM (l.getD j default) m = true) : ltM (l.getD i default) m = true := by
  have h1 := List.pairwise_iff_getElem.1 h i j (by omega) hj hij
  have e1 : l.getD i default = l[i] := by simp [List.getD_eq_getElem?_getD, show i < l.length by omega]
  have e2 : l.getD j default = l[j] := by simp [List.getD_eq_getElem?_getD, hj]
  rw [e2] at hl
  rw [e1]
  generalize l[i] = a at *
  generalize l[j] = b at *
  rw [ltM_no] at h1
  rw [ltM_iff] at *
  omega

set_option maxHeartbeats 4000000 in
set_option maxRecDepth 100000 in
theorem placeIn_any {w : World} {v : Value} {l : List M} (h : AtM w v l) (hO : InOrder ltM l) (m : M) (hl : l.length < 1000000) :
    Calls Try.prog 42 #[v, m.val] w fun e w' => ∃ p : Nat, e = .returned (.int .i64 p) ∧ Below w.heap.size w w' ∧ PlaceOf l m p := by
  have mixed := mixed
  obtain ⟨a, cap, hv, hlc⟩ := RowAt.shape h
  subst hv
  have hB0 : Hid (Below w.heap.size w ((w.alloc (.cells #[.slice a l.length cap] 38)).alloc (.cells m.cells 34))) := ((Below.refl _ w).alloc (Nat.le_refl _) _).alloc (by simp) _
  have hsr : Calls Try.prog 50 #[.int .i64 l.length, .func (.func 51) #[] #[.pointer (some ⟨w.heap.size, 0, none⟩), .pointer (some ⟨w.heap.size + 1, 0, none⟩)]] ((w.alloc (.cells #[.slice a l.length cap] 38)).alloc (.cells m.cells 34)) fun e w' =>
      ∃ p : Nat, e = .returned (.int .i64 p) ∧ Hid (Below w.heap.size w w' ∧ PlaceOf l m p) := by
    refine (search_any l.length hl (fun i => ltM (l.getD i default) m) _ _ (fun k hk W hW => ?_) (fun i j => order_mono hO m i j)).mono ?_
    · obtain ⟨g, off, cap', he, hR⟩ := AtM.form h (by omega)
      cases he
      have hb := hB0.out.trans (hW.below.mono hB0.out.size)
      have e1 : (w.alloc (.cells #[.slice (some ⟨g, off, none⟩) l.length cap] 38)).heap.size = w.heap.size + 1 := by simp
      have hA : ((w.alloc (.cells #[.slice (some ⟨g, off, none⟩) l.length cap] 38)).alloc (.cells m.cells 34)).cell? ⟨w.heap.size, 0, none⟩ = some (.slice (some ⟨g, off, none⟩) l.length cap) := by
        rw [World.cell?_alloc_lt _ _ _ (by simp)]
        have := heap_alloc_new w (.cells #[.slice (some ⟨g, off, none⟩) l.length cap] 38)
        rw [cell_of_row _ _ 0 _ _ (0, 0) this]
        rfl
      have hBm := (BoxM.mk (w.alloc (.cells #[.slice (some ⟨g, off, none⟩) l.length cap] 38)) m)
      rw [e1] at hBm
      exact placeF_any m (hW.cell (by simp <;> omega) hA) (hBm.at.read hW) (RowIn.kept (S := fun _ => False) hR (.of_below hb) (fun e => e)) k hk
    · rintro e w' ⟨p, he, hr, hp⟩
      exact ⟨p, he, hB0.out.trans (hr.below.mono hB0.out.size), hp⟩
  clear h hO
  simp only [M.val, M.cells] at hsr ⊢
  go_enter Try.func42, Try.ntmps42
  go_wp2_with (go_at_call 50; refine hsr.mono ?_; rintro e w1 ⟨p, rfl, hp⟩)
  go_ret
  exact ⟨p, rfl, hp.out⟩

theorem ccNaN_any (a : Int) (w : World) : Calls Try.prog 58 #[.int .i64 a] w fun e w' => e = .returned (.bool false) ∧ w = w' := by
  go_enter Try.func58, Try.ntmps58
  go_wp2
  go_ret
  exact ⟨rfl, rfl⟩
theorem csNaN_any (a : Int) (w : World) : Calls Try.prog 49 #[.int .i64 a] w fun e w' => e = .returned (.bool false) ∧ w = w' := by
  go_enter Try.func49, Try.ntmps49
  go_wp2
  go_ret
  exact ⟨rfl, rfl⟩
theorem cLess_any (a b : Int) (w : World) : Calls Try.prog 48 #[.int .i64 a, .int .i64 b] w fun e w' => e = .returned (.bool (decide (a < b))) ∧ w = w' := by
  have h1 := ccNaN_any a w
  have h2 := ccNaN_any b w
  go_enter Try.func48, Try.ntmps48
  go_wp2_with (go_at_call 58; first | (refine h1.mono ?_; rintro e w1 ⟨rfl, rfl⟩) | (refine h2.mono ?_; rintro e w1 ⟨rfl, rfl⟩))
  go_ret
  exact ⟨rfl, rfl⟩
/-- p is the place of d among the days ds. -/
def PlaceI (ds : List Int) (d : Int) (p : Nat) : Prop := p ≤ ds.length ∧ (∀ i, i < p → ds.getD i 0 < d) ∧ ∀ i, p ≤ i → i < ds.length → d ≤ ds.getD i 0
theorem RowI.cellI {w : World} {g off cap : Nat} {ds : List Int} (h : RowI w g off cap ds) (i : Nat) (hi : i < ds.length) : w.cell? ⟨g, off + i, none⟩ = some (.int .i64 (ds.getD i 0)) := by
  refine RowIn.cell h ?_
  rw [ints_get]
  simp [List.getD_eq_getElem?_getD, hi]
theorem rising_mono {ds : List Int} (h : ds.Pairwise (· < ·)) (i j : Nat) (hij : i < j) (hj : j < ds.length) : ds.getD i 0 < ds.getD j 0 := by
  have h1 := List.pairwise_iff_getElem.1 h i j (by omega) hj hij
  have e1 : ds.getD i 0 = ds[i] := by simp [List.getD_eq_getElem?_getD, show i < ds.length by omega]
  have e2 : ds.getD j 0 = ds[j] := by simp [List.getD_eq_getElem?_getD, hj]
  rw [e1, e2]
  exact h1

end Go.Proofs.Yticffeklmhcniaa
